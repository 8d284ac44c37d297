/- The walk of the document's Batch. -/
import Derived.Test.YtondfbjldonogaaWalksO
import Derived.Deep.RegionHeldLaw
namespace Go.Proofs.Ytondfbjldonogaa
open Go.RowKit

theorem Gr.drew {B : Nat} {w : World} {ao : Option Addr} {n cap : Nat} {xs : List Int} (h : Gr B w ao n cap xs) : Gr B w.drew ao n cap xs := h.later ((Below.refl _ _).drew)
theorem Box.drew {w : World} {bx : Nat} {k v : Value} {g : Bool} (h : Box w bx k v g) : Box w.drew bx k v g := ⟨h.c0, h.c1, h.c2⟩

theorem Gr.mono {B C : Nat} {w : World} {ao : Option Addr} {n cap : Nat} {xs : List Int} (h : Gr B w ao n cap xs) (hBC : C ≤ B) : Gr C w ao n cap xs := by
  refine ⟨⟨h.own.1, ?_⟩, h.rng, Nat.le_trans hBC h.hB⟩
  rcases h.own.2 with h' | ⟨g, cap', cur, e, hb, r⟩
  · exact .inl h'
  · exact .inr ⟨g, cap', cur, e, Nat.le_trans hBC hb, r⟩

set_option maxHeartbeats 8000000 in
theorem rbatch_any (ao : Option Addr) (len cap : Nat) (l : List Ent) (w : World) (h : Lx 3 RE w ao len cap l) (hm : mayL l = true) :
    Calls Try.prog 10 #[.slice ao len cap] w fun e w' => ∃ bo lb cb, e = .returned (.slice bo lb cb) ∧ Gr w.heap.size w' bo lb cb (batchL l) ∧ Below w.heap.size w w' := by
  have hl := h.len_eq
  obtain ⟨y1, y2⟩ := (mayL_iff l).1 hm
  have p1 := refput_own none 0 0 len 2 [] w (Tx.nil w) (by omega) (by omega) (by omega) (by omega) (by omega)
  have hc2 : clampN 2 = 2 := rfl
  rw [hc2, List.nil_append] at p1
  by_cases h0 : 0 < len
  · obtain ⟨b, off, rfl, hc⟩ := h.headE h0
    go_enter Try.func10, Try.ntmps10
    go_wp2_with (go_at_call 28; with_reducible refine p1.mono ?_; rintro e w1 ⟨a1, n1, c1, rfl, g1, b1⟩)
    go_loopw [3, 4] (fun s i wr => ∃ (k n2 : Nat) (a2 : Option Addr) (c2 : Nat), k ≤ len ∧ i = .int .i64 k ∧ s = .slice a2 n2 c2 ∧ Gr w.heap.size wr a2 n2 c2 (low 2 len ++ (l.take k).flatMap encE) ∧ Below w.heap.size w wr) (fun _ i _ => len - (intOf i).toNat)
    case atStart => exact ⟨0, n1, a1, c1, by omega, rfl, rfl, by simpa using g1, b1⟩
    case round =>
      obtain ⟨k, n2, a2, c2', hk, rfl, rfl, g2, hb⟩ := hrel
      by_cases hk2 : k < len
      · obtain ⟨ko, kl, kc, vo, vl, vc, c0, c1, c2, tk, tv⟩ := hc k (l[k]'(by omega)) (by simp)
        have c0 := cell_later hb c0
        have c1 := cell_later hb c1
        have c2 := cell_later hb c2
        have hfit := y2 (l[k]'(by omega)) (List.getElem_mem _)
        have hst := batch_take_succ l k (l[k]'(by omega)) (by simp)
        have hsm := flat_take_small l k y1 y2
        have hn2 := g2.len
        simp only [List.length_append, length_low] at hn2
        have hn2' : n2 ≤ 40000002 := by omega
        clear hn2 hsm
        have hst' : Hid (low 2 len ++ (l.take (k + 1)).flatMap encE = low 2 len ++ (l.take k).flatMap encE ++ encE (l[k]'(by omega))) := by show _ = _; rw [hst, List.append_assoc]
        clear hst
        have tk2 := tk.low.later hb
        have tv2 := tv.low.later hb
        generalize l[k]'(by omega) = e at c2 hfit hst' tk2 tv2
        obtain ⟨G, hG⟩ : ∃ G, Hid (e.g = G) := ⟨_, rfl⟩
        rw [hG.out] at c2
        obtain ⟨f1, f2, f3⟩ := (fitsE_iff e).1 hfit
        have lk := tk2.tx.len_eq
        have lv := tv2.tx.len_eq
        rw [lk] at f1 f2
        rw [lv] at f3
        generalize low 2 len ++ (l.take k).flatMap encE = X at g2 hst'
        have gV := g2.alloc (.cells #[.slice ko kl kc, .slice vo vl vc, .bool G] 28)
        have bV : Below w.heap.size w (wr.alloc (.cells #[.slice ko kl kc, .slice vo vl vc, .bool G] 28)) := hb.alloc hb.size _
        have xV := Box.new wr (.slice ko kl kc) (.slice vo vl vc) G
        have nV := fresh_own g2
        have tkV := tk2.alloc (.cells #[.slice ko kl kc, .slice vo vl vc, .bool G] 28)
        have tvV := tv2.alloc (.cells #[.slice ko kl kc, .slice vo vl vc, .bool G] 28)
        have hwB := hb.size
        cases G with
        | true =>
          have he : Hid (encE e = [0, (kl : Int)] ++ e.k) := by show _ = _; rw [encE_gone e hG.out, lk]; simp
          go_wp2_with fail
          generalize wr.alloc (.cells #[.slice ko kl kc, .slice vo vl vc, .bool true] 28) = V at gV bV xV tkV tvV ⊢
          have xc := xV.drew.c0
          have hbx := xV.lt
          have hw8 : IntKind.u8.wrap (kl : Int) = kl := by rw [IntKind.wrap_u8]; omega
          have bL : Below V.heap.size V (V.alloc (.cells #[.int .u8 0, .int .u8 (IntKind.u8.wrap (kl : Int))] 5)).drew := ((Below.refl _ _).alloc (Nat.le_refl _) _).drew
          have tL : Tx (V.alloc (.cells #[.int .u8 0, .int .u8 (IntKind.u8.wrap (kl : Int))] 5)).drew (some ⟨V.heap.size, 0, none⟩) 2 2 [0, (kl : Int)] := by rw [hw8]; exact (tx_two V 0 kl (by omega) (by omega)).later ((Below.refl _ _).drew)
          have gL := gV.later bL
          have xL := (xV.later bL)
          have tkL := tkV.later (bL.mono gV.hB)
          have tvL := tvV.later (bL.mono gV.hB)
          have hsL : wr.heap.size < ((V.alloc (.cells #[.int .u8 0, .int .u8 (IntKind.u8.wrap (kl : Int))] 5)).drew).heap.size := xL.lt
          clear hw8
          go_region_held_law (fun w' => w'.cell? ⟨wr.heap.size, 0, none⟩ = some (.slice ko kl kc)) (first | assumption | exact xL.c0) (first
            | (refine step_gr rfl (.tmp 22) (.tmp 27) rfl w.heap.size a2 n2 c2' X (by simp [Act.eval]) gL (some ⟨V.heap.size, 0, none⟩) 2 2 [0, (kl : Int)] (by simp [Act.eval]) tL (by omega) ?_; intro a5 n5 c5 w5 hn5 g5 m5; have q5 : n5 ≤ 40000010 := (by have := hn5.out; omega); have X5 := xL.moves m5 nV; have x5 := X5.1.c0; have t5 := (tkL.later (m5.below gL)); have v5 := (tvL.later (m5.below gL)); have tt5 := t5.tx; clear hn5)
            | (refine step_gr rfl (.tmp 28) (.tmp 30) rfl w.heap.size a5 n5 c5 (X ++ [0, (kl : Int)]) (by simp [Act.eval, Act.put]) g5 ko kl kc e.k (by simp [Act.eval, Act.put]) tt5 (by omega) ?_; intro a6 n6 c6 w6 hn6 g6 m6; have q6 : n6 ≤ 40000300 := (by have := hn6.out; omega); have X6 := X5.1.moves m6 X5.2; have x6 := X6.1.c0; have v6 := v5.later (m6.below g5); clear hn6))
          all_goals
            try simp only [List.getElem_toArray, List.getElem_cons_succ, List.getElem_cons_zero, List.setIfInBounds_toArray, List.set_cons_zero, List.set_cons_succ]
            have B6 := bV.trans ((((bL.mono gV.hB).trans (m5.below gL)).trans (m6.below g5)))
            go_wp2
            go_roundw
            case rel => exact ⟨k + 1, n6, a6, c6, by omega, by go_num, rfl, by rw [hst'.out, he.out, ← List.append_assoc]; exact g6, B6⟩
            case measure => simp [intOf]; omega
        | false =>
          have hv : vl ≤ 4095 := by simpa [hG.out] using f3
          have he : Hid (encE e = [1, (kl : Int)] ++ e.k ++ low 2 vl ++ e.v) := by show _ = _; rw [encE_there e hG.out, lk, lv]; simp
          go_wp2_with fail
          generalize wr.alloc (.cells #[.slice ko kl kc, .slice vo vl vc, .bool false] 28) = V at gV bV xV tkV tvV ⊢
          have xc := xV.drew.c0
          have hbx := xV.lt
          have hw8 : IntKind.u8.wrap (kl : Int) = kl := by rw [IntKind.wrap_u8]; omega
          have bL : Below V.heap.size V (V.alloc (.cells #[.int .u8 1, .int .u8 (IntKind.u8.wrap (kl : Int))] 5)).drew := ((Below.refl _ _).alloc (Nat.le_refl _) _).drew
          have tL : Tx (V.alloc (.cells #[.int .u8 1, .int .u8 (IntKind.u8.wrap (kl : Int))] 5)).drew (some ⟨V.heap.size, 0, none⟩) 2 2 [1, (kl : Int)] := by rw [hw8]; exact (tx_two V 1 kl (by omega) (by omega)).later ((Below.refl _ _).drew)
          have gL := gV.later bL
          have xL := (xV.later bL)
          have tkL := tkV.later (bL.mono gV.hB)
          have tvL := tvV.later (bL.mono gV.hB)
          have hsL : wr.heap.size < ((V.alloc (.cells #[.int .u8 1, .int .u8 (IntKind.u8.wrap (kl : Int))] 5)).drew).heap.size := xL.lt
          clear hw8
          go_region_held_law (fun w' => w'.cell? ⟨wr.heap.size, 0, none⟩ = some (.slice ko kl kc)) (first | assumption | exact xL.c0) (first
            | (refine step_gr rfl (.tmp 32) (.tmp 37) rfl w.heap.size a2 n2 c2' X (by simp [Act.eval]) gL (some ⟨V.heap.size, 0, none⟩) 2 2 [1, (kl : Int)] (by simp [Act.eval]) tL (by omega) ?_; intro a5 n5 c5 w5 hn5 g5 m5; have q5 : n5 ≤ 40000010 := (by have := hn5.out; omega); have X5 := xL.moves m5 nV; have x5 := X5.1.c0; have t5 := (tkL.later (m5.below gL)); have v5 := (tvL.later (m5.below gL)); have tt5 := t5.tx; clear hn5)
            | (refine step_gr rfl (.tmp 38) (.tmp 40) rfl w.heap.size a5 n5 c5 (X ++ [1, (kl : Int)]) (by simp [Act.eval, Act.put]) g5 ko kl kc e.k (by simp [Act.eval, Act.put]) tt5 (by omega) ?_; intro a6 n6 c6 w6 hn6 g6 m6; have q6 : n6 ≤ 40000300 := (by have := hn6.out; omega); have X6 := X5.1.moves m6 X5.2; have x6 := X6.1.c0; have v6 := v5.later (m6.below g5); clear hn6))
          all_goals
            try simp only [List.getElem_toArray, List.getElem_cons_succ, List.getElem_cons_zero, List.setIfInBounds_toArray, List.set_cons_zero, List.set_cons_succ]
            have B6 := bV.trans ((((bL.mono gV.hB).trans (m5.below gL)).trans (m6.below g5)))
            have hV6 := v6.tx
            have hw64 : IntKind.u64.wrap (vl : Int) = vl := by rw [IntKind.wrap_u64]; omega
            have hput := refput_own a6 n6 c6 (IntKind.u64.wrap (vl : Int)) 2 _ w6.drew (g6.drew.tx) (by omega) (by rw [hw64]; omega) (by rw [hw64]; omega) (by omega) (by omega)
            have hlw : low 2 (IntKind.u64.wrap (vl : Int)) = low 2 (vl : Int) := by rw [hw64]
            rw [hc2, hlw] at hput
            clear hw64 hlw
            have y1c := X6.1.drew.c1
            have hl2 : (low 2 (vl : Int)).length = 2 := length_low _ _
            generalize hL2 : low 2 (vl : Int) = L2 at hput he hl2
            go_wp2_with fail
            go_region_held_law (fun w' => w'.cell? ⟨wr.heap.size, 1, none⟩ = some (.slice vo vl vc)) (first | assumption | exact y1c) (first
              | (refine step_gr rfl (.tmp 47) (.tmp 49) rfl w6.drew.heap.size a7 n7 c7 (X ++ [1, (kl : Int)] ++ e.k ++ L2) (by simp [Act.eval]) g7 vo vl vc e.v (by simp [Act.eval]) t7 (by omega) ?_; intro a8 n8 c8 w8 hn8 g8 m8; have y8 := m8.cell (bx := wr.heap.size) (j := 1) y7 o7; clear hn8)
              | (go_at_call 28; with_reducible refine hput.mono ?_; rintro e7 w7 ⟨a7, n7, c7, rfl, g7, b7⟩; have y7 := cell_later b7 y1c; have t7 := (hV6.later ((Below.refl _ _).drew)).later b7; have o7 : wr.heap.size ∉ own (.slice a7 n7 c7) := (fun hk => by have h1 := (g7.lt _ hk).2; have h2 := X6.1.lt; have h3 : w6.drew.heap.size = w6.heap.size := rfl; omega); have q7 : n7 ≤ 40000400 := gr_le g6 g7 hl2 (by omega)))
            all_goals
              try simp only [List.getElem_toArray, List.getElem_cons_succ, List.getElem_cons_zero, List.setIfInBounds_toArray, List.set_cons_zero, List.set_cons_succ]
              have B8 := B6.trans (((Below.refl w6.heap.size w6).drew.trans (b7.trans (m8.below g7))).mono B6.size)
              have G8 := g8.mono (C := w.heap.size) B6.size
              go_wp2
              go_roundw
              case rel => exact ⟨k + 1, n8, a8, c8, by omega, by go_num, rfl, by rw [hst'.out, he.out]; simpa using G8, B8⟩
              case measure => simp [intOf]; omega
      · have hkl : k = len := by omega
        go_wp2
        go_ret
        refine ⟨a2, n2, c2', rfl, ?_, hb⟩
        rw [hkl, List.take_of_length_le (by omega)] at g2
        rw [batchL, hl]; exact g2
  · obtain rfl : len = 0 := by omega
    have hl0 : l = [] := List.eq_nil_of_length_eq_zero hl
    subst hl0
    have p0 := refput_own none 0 0 0 2 [] w (Tx.nil w) (by omega) (by omega) (by omega) (by omega) (by omega)
    rw [hc2, List.nil_append] at p0
    go_enter Try.func10, Try.ntmps10
    go_wp2_with (go_at_call 28; with_reducible refine p0.mono ?_; rintro e w1 ⟨a1, n1, c1, rfl, g1, b1⟩)
    refine wp_loop_rounds 1 ?_
    rw [rounds_succ]
    go_wp2
    go_ret
    exact ⟨a1, n1, c1, rfl, by simpa [batchL] using g1, b1⟩

end Go.Proofs.Ytondfbjldonogaa
