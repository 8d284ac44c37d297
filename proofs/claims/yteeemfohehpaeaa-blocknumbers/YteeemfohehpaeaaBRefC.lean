/- The walk of the document's Build. -/
import Derived.Test.YteeemfohehpaeaaBRefB
import Derived.Test.YteeemfohehpaeaaPD
namespace Go.Proofs.Yteeemfohehpaeaa
open Go.RowKit Go.Sort

/-- What holds at each round's head of the document's Build. -/
structure QRel (w wr : World) (l : List Ent) (k : Nat) (a3 : Option Addr) (n3 c3 : Nat) (a4 : Option Addr) (n4 c4 : Nat) : Prop where
  out : Gr w.heap.size wr a3 n3 c3 (bodyL 0 [] (l.take k))
  st : Gr w.heap.size wr a4 n4 c4 (startL 0 0 [] (l.take k))
  dis : ∀ q ∈ own (.slice a4 n4 c4), q ∉ own (.slice a3 n3 c3)
  bel : Below w.heap.size w wr
theorem qrel_start (w : World) (l : List Ent) : QRel w w l 0 none 0 0 none 0 0 := ⟨Gr.nil w, Gr.nil w, by simp [own, Value.ownBlock], Below.refl _ _⟩
theorem qrel_step {w w3 : World} {l : List Ent} {k : Nat} {a3 : Option Addr} {n3 c3 : Nat} {a4 : Option Addr} {n4 c4 : Nat} {e : Ent} (hx : l[k]? = some e) (g3 : Gr w.heap.size w3 a3 n3 c3 (bodyL 0 [] (l.take k) ++ encB (pre k (lastK [] (l.take k))) e))
    (g4 : Gr w.heap.size w3 a4 n4 c4 (startL 0 0 [] (l.take k) ++ (if k % 4 = 0 then low 2 ((bodyL 0 [] (l.take k)).length : Nat) else []))) (dis : ∀ q ∈ own (.slice a4 n4 c4), q ∉ own (.slice a3 n3 c3)) (hb : Below w.heap.size w w3) : QRel w w3 l (k + 1) a3 n3 c3 a4 n4 c4 := by
  have hlen := len_take hx
  refine ⟨?_, ?_, dis, hb⟩
  · rw [take_snoc l k e hx, bodyL_snoc, hlen, Nat.zero_add]; exact g3
  · rw [take_snoc l k e hx, startL_snoc, hlen, Nat.zero_add, Nat.zero_add]; exact g4
theorem pre_at {l : List Ent} {k q : Nat} {e : Ent} (h4 : ¬ k % 4 = 0) (hq : k = q + 1) (hy : l[q]? = some e) : pre k (lastK [] (l.take k)) = e.k := by
  subst hq
  rw [pre, if_neg h4, lastK_at l q _ hy]
theorem tx_two_at (V : World) (x y : Int) (hx : 0 ≤ x ∧ x ≤ 255) (hy : 0 ≤ y ∧ y ≤ 255) : Tx (V.alloc (.cells #[.int .u8 x, .int .u8 y] 5)).drew (some ⟨V.heap.size, 0, none⟩) 2 2 [x, y] := (tx_two V x y hx hy).later ((Below.refl _ _).drew)

set_option maxHeartbeats 16000000 in
set_option maxRecDepth 100000 in
theorem rbuild_any (ao : Option Addr) (len cap : Nat) (l : List Ent) (w : World) (h : Lx 3 RE w ao len cap l) (hm : mayB 255 l = true) :
    Calls Try.prog 10 #[.slice ao len cap] w fun e w' => ∃ bo lb cb, e = .returned (.slice bo lb cb) ∧ Gr w.heap.size w' bo lb cb (blockL l) ∧ Below w.heap.size w w' := by
  have hl := h.len_eq
  obtain ⟨y1, y2, y3⟩ := (mayB_iff 255 l).1 hm
  have y4 : Hid (∀ e ∈ l, fitsE e = true) := okL_fits l [] y3
  have y3 : Hid (okL [] l = true) := y3
  obtain ⟨b, off, rfl, hc⟩ := h.headE (by omega)
  clear hm
  go_enter Try.func10, Try.ntmps10
  go_wp2
  go_loopw [3, 4, 5, 6, 7] (fun s3 s4 s5 i _ wr => ∃ (k : Nat) (a3 : Option Addr) (n3 c3 : Nat) (a4 : Option Addr) (n4 c4 : Nat), k ≤ len ∧ i = .int .i64 k ∧ s3 = .slice a3 n3 c3 ∧ s4 = .slice a4 n4 c4 ∧ s5 = .int .i64 ((k + 3) / 4 : Nat) ∧ QRel w wr l k a3 n3 c3 a4 n4 c4) (fun _ _ _ i _ _ => len - (intOf i).toNat)
  case atStart => exact ⟨0, none, 0, 0, none, 0, 0, by omega, rfl, rfl, rfl, rfl, qrel_start w l⟩
  case round =>
    obtain ⟨k, a3, n3, c3, a4, n4, c4, hk, rfl, rfl, rfl, rfl, hr⟩ := hrel
    have hn3 : n3 ≤ 1200000 := by have := body_small l k y3.out y2; have := hr.out.len; omega
    have hn4 : n4 ≤ 130 := by have := start_small l k y2; have := hr.st.len; omega
    by_cases hk2 : k < len
    · have hx : l[k]? = some (l[k]'(by omega)) := by simp
      obtain ⟨ko, kl, kc, vo, vl, vc, c0, c1, c2, tk, tv⟩ := hc k _ hx
      have hfe := y4.out (l[k]'(by omega)) (List.getElem_mem _)
      generalize l[k]'(by omega) = e at hx c2 tk tv hfe
      have hX : Hid (l[k]? = some e) := hx
      clear hx
      obtain ⟨f1, f2, f3⟩ := (fitsE_iff e).1 hfe
      have lk := tk.len_eq
      have lv := tv.len_eq
      rw [lk] at f1 f2
      rw [lv] at f3
      obtain ⟨G, hG⟩ : ∃ G, Hid (e.g = G) := ⟨_, rfl⟩
      rw [hG.out] at c2 f3
      obtain ⟨kb, kf, rfl, _⟩ := tk.head (by omega)
      have hb := hr.bel
      have hbz := hb.size
      have ln3 : Hid ((bodyL 0 [] (l.take k)).length = n3) := hr.out.len
      have hsl := (shared_le (pre k (lastK [] (l.take k))) e.k).2
      rw [lk] at hsl
      -- up to the region of two appends
      by_cases h4 : k % 4 = 0
      · have t4 : (k : Int).tmod 4 = 0 := by rw [Int.tmod_eq_emod_of_nonneg (by omega)]; omega
        have hset : Hid (startL 0 0 [] (l.take k) ++ low 2 n3 = startL 0 0 [] (l.take k) ++ (if k % 4 = 0 then low 2 ((bodyL 0 [] (l.take k)).length : Nat) else [])) := by show _ = _; rw [if_pos h4, ln3.out]
        have hsh : shared (pre k (lastK [] (l.take k))) e.k = 0 := by rw [pre, if_pos h4, shared_nil]
        have p1 := refput_own a4 n4 c4 n3 2 _ wr hr.st.tx (by omega) (by omega) (by omega) (by omega) (by omega)
        have hc2 : clampN 2 = 2 := rfl
        rw [hc2, hset.out] at p1
        have hcnt : (((k + 3) / 4 : Nat) : Int) + 1 = ((k + 1 + 3) / 4 : Nat) := by omega
        clear hset
        go_wp2_with (go_at_call 26; with_reducible refine p1.mono ?_; rintro e1 w1 ⟨a5, n5, c5, rfl, g5, b5⟩)
        have hcnt' : Hid ((((k + 3) / 4 : Nat) : Int) + 1 = ((k + 1 + 3) / 4 : Nat)) := hcnt
        have bV : Below w.heap.size w w1 := hb.trans (b5.mono hbz)
        have gV := hr.out.later b5
        have stV := g5.mono hbz
        have disV : ∀ q ∈ own (.slice a5 n5 c5), q ∉ own (.slice a3 n3 c3) := fun q hq hq2 => by have h1 := (g5.lt q hq).2; have h2 := (hr.out.lt q hq2).1; omega
        have tkV := tk.low.later bV
        have tvV := tv.low.later bV
        rw [hsh] at hsl
        have hencg : G = true → Hid (encB (pre k (lastK [] (l.take k))) e = [0, (kl : Int)] ++ e.k ++ [0]) := fun hg => by show _ = _; rw [encB_gone _ e (by rw [hG.out]; exact hg), hsh, lk]; simp
        have henct : G = false → Hid (encB (pre k (lastK [] (l.take k))) e = [0, (kl : Int)] ++ e.k ++ [1] ++ low 2 vl ++ e.v) := fun hg => by show _ = _; rw [encB_there _ e (by rw [hG.out]; exact hg), hsh, lk, lv]; simp
        clear hsh hsl
        have hw7 : IntKind.i64.wrap (kl : Int) = kl := by rw [IntKind.wrap_i64]; omega
        have hw8 : IntKind.u8.wrap (IntKind.i64.wrap (kl : Int)) = kl := by rw [hw7, IntKind.wrap_u8]; omega
        clear hw7 hcnt
        have hw9 : IntKind.u8.wrap 0 = 0 := by rw [IntKind.wrap_u8]; omega
        have hkc : ¬ kc = 0 := by have := tk.le; omega
        have hcV : w1.drew.cell? ⟨b, off + k * 3, none⟩ = some (.slice (some ⟨kb, kf, none⟩) kl kc) := cell_later bV.drew c0
        have bL : Below w1.heap.size w1 (w1.alloc (.cells #[.int .u8 (IntKind.u8.wrap 0), .int .u8 (IntKind.u8.wrap (IntKind.i64.wrap (kl : Int)))] 5)).drew := ((Below.refl _ _).alloc (Nat.le_refl _) _).drew
        have tL : Tx (w1.alloc (.cells #[.int .u8 (IntKind.u8.wrap 0), .int .u8 (IntKind.u8.wrap (IntKind.i64.wrap (kl : Int)))] 5)).drew (some ⟨w1.heap.size, 0, none⟩) 2 2 [0, (kl : Int)] := by rw [hw8, hw9]; exact tx_two_at w1 _ _ (by omega) (by omega)
        have gL := gV.later bL
        have hcL : (w1.alloc (.cells #[.int .u8 (IntKind.u8.wrap 0), .int .u8 (IntKind.u8.wrap (IntKind.i64.wrap (kl : Int)))] 5)).drew.cell? ⟨b, off + k * 3, none⟩ = some (.slice (some ⟨kb, kf, none⟩) kl kc) := cell_later (bV.trans (bL.mono bV.size)) c0
        clear hw8 hw9
        have tkL := tkV.later (bL.mono gV.hB)
        have tvL := tvV.later (bL.mono gV.hB)
        have stL := (Moves.of_below (v := .slice a3 n3 c3) bL).other stV disV
        have hnb : ∀ (x : Option Addr) (y z : Nat) (W : World) (zs : List Int), Gr w.heap.size W x y z zs → b ∉ own (.slice x y z) := fun x y z W zs g hq => by have h1 := (g.lt _ hq).2; have h2 := World.block_lt_of_cell? _ _ c0; simp at h2; omega
        obtain ⟨X, hXe⟩ : ∃ X, Hid (bodyL 0 [] (l.take k) = X) := ⟨_, rfl⟩
        rw [hXe.out] at gL
        go_region_held_law (fun w' => w'.cell? ⟨b, off + k * 3, none⟩ = some (.slice (some ⟨kb, kf, none⟩) kl kc)) (first | assumption | exact hcL) (first
          | (refine step_gr rfl (.tmp 36) (.tmp 48) rfl w.heap.size a3 n3 c3 X (by simp [Act.eval]) gL (some ⟨w1.heap.size, 0, none⟩) 2 2 [0, (kl : Int)] (by simp [Act.eval]) tL (by omega) ?_; intro a6 n6 c6 w6 hn6 g6 m6; have q6 : n6 ≤ 1200002 := (by have := hn6.out; omega); have x6 := m6.cell hcL (hnb _ _ _ _ _ gL); have tk6 := tkL.later (m6.below gL); have tt6 := tk6.tx; clear hn6)
          | (refine step_gr rfl (.tmp 49) (.tmp 56) rfl w.heap.size a6 n6 c6 (X ++ [0, (kl : Int)]) (by simp [Act.eval, Act.put]) g6 (some ⟨kb, kf, none⟩) kl kc e.k (by simp [Act.eval, Act.put]) tt6 (by omega) ?_; intro a7 n7 c7 w7 hn7 g7 m7; have q7 : n7 ≤ 1200300 := (by have := hn7.out; omega); have x7 := m7.cell x6 (hnb _ _ _ _ _ g6); clear hn7))
        all_goals
          try simp only [List.getElem_toArray, List.getElem_cons_succ, List.getElem_cons_zero, List.setIfInBounds_toArray, List.set_cons_zero, List.set_cons_succ]
          have B7 := bV.trans (((bL.mono gV.hB).trans (m6.below gL)).trans (m7.below g6))
          have d2 := cell_later B7 c2
          have st6 := m6.other stL.1 stL.2
          have st7 := m7.other st6.1 st6.2
          have tv7 := (tvL.later (m6.below gL)).later (m7.below g6)
          cases G with
          | true =>
            have he := hencg rfl
            have t8 := tx_one w7 0 (by omega)
            have g7a := g7.alloc (.cells #[.int .u8 0] 5)
            go_wp2_with (with_reducible show wpList _ _ _ (⟨some 65, _, _, _, _, _⟩ :: _) _ _; refine wpList_gr rfl _ _ rfl w.heap.size a7 n7 c7 _ rfl g7a (some ⟨w7.heap.size, 0, none⟩) 1 1 [0] rfl t8 (by omega) ?_; intro a8 n8 c8 w8 hn8 g8 m8)
            have bA : Below w7.heap.size w7 (w7.alloc (.cells #[.int .u8 0] 5)) := (Below.refl _ _).alloc (Nat.le_refl _) _
            have stA := (Moves.of_below (v := .slice a7 n7 c7) bA).other st7.1 st7.2
            have st8 := m8.other stA.1 stA.2
            go_roundw
            case rel =>
              refine ⟨k + 1, a8, n8, c8, a5, n5, c5, by omega, by go_num, rfl, rfl, (by first | rfl | (rw [hcnt'.out]) | go_num), qrel_step hX.out ?_ (by exact st8.1) st8.2 ?_⟩
              · rw [he.out, hXe.out]; simpa using g8
              · exact (B7.trans (bA.mono B7.size)).trans (m8.below g7a)
            case measure => simp [intOf]; omega
          | false =>
            have he := henct rfl
            have hv : vl ≤ 4095 := by simpa using f3
            have d1 : w7.drew.cell? ⟨b, off + k * 3 + 1, none⟩ = some (.slice vo vl vc) := cell_later B7.drew c1
            have hw64 : IntKind.u64.wrap (vl : Int) = vl := by rw [IntKind.wrap_u64]; omega
            have bM : Below w7.heap.size w7 (w7.alloc (.cells #[.int .u8 1] 5)).drew := ((Below.refl _ _).alloc (Nat.le_refl _) _).drew
            have tM : Tx (w7.alloc (.cells #[.int .u8 1] 5)).drew (some ⟨w7.heap.size, 0, none⟩) 1 1 [1] := (tx_one w7 1 (by omega)).later ((Below.refl _ _).drew)
            have gM := g7.later bM
            have dM : (w7.alloc (.cells #[.int .u8 1] 5)).drew.cell? ⟨b, off + k * 3 + 1, none⟩ = some (.slice vo vl vc) := cell_later (B7.trans (bM.mono B7.size)) c1
            have tvM := tv7.later (bM.mono g7.hB)
            have stM := (Moves.of_below (v := .slice a7 n7 c7) bM).other st7.1 st7.2
            have hl2 : (low 2 (vl : Int)).length = 2 := length_low _ _
            have hput := fun (a8 : Option Addr) (n8 c8 : Nat) (zs : List Int) (W : World) (t : Tx W a8 n8 c8 zs) (hn : n8 ≤ 1300000) => refput_own a8 n8 c8 (IntKind.u64.wrap (vl : Int)) 2 zs W t (by omega) (by rw [hw64]; omega) (by rw [hw64]; omega) (by omega) (by omega)
            have hc22 : clampN 2 = 2 := rfl
            have hlw : low 2 (IntKind.u64.wrap (vl : Int)) = low 2 (vl : Int) := by rw [hw64]
            simp only [hc22, hlw] at hput
            clear hw64 hlw
            generalize hL2 : low 2 (vl : Int) = L2 at hput he hl2
            go_wp2_with fail
            go_region_held_law (fun w' => w'.cell? ⟨b, off + k * 3 + 1, none⟩ = some (.slice vo vl vc)) (first | assumption | exact dM) (first
              | (refine step_gr rfl (.tmp 66) (.tmp 67) rfl w.heap.size a7 n7 c7 _ (by simp [Act.eval]) gM (some ⟨w7.heap.size, 0, none⟩) 1 1 [1] (by simp [Act.eval]) tM (by omega) ?_; intro a8 n8 c8 w8 hn8 g8 m8; have q8 : n8 ≤ 1200301 := (by have := hn8.out; omega); have x8 := m8.cell dM (hnb _ _ _ _ _ gM); have tv8 := tvM.later (m8.below gM); have p8 := hput a8 n8 c8 _ w8 g8.tx (by omega); clear hn8)
              | (go_at_call 26; with_reducible refine p8.mono ?_; rintro e9 w9 ⟨a9, n9, c9, rfl, g9, b9⟩; have x9 := cell_later b9 x8; have t9 := tv8.tx.later b9; have q9 : n9 ≤ 1200400 := gr_le g8 g9 hl2 (by omega); have o9 : b ∉ own (.slice a9 n9 c9) := hnb _ _ _ _ _ (g9.mono (C := w.heap.size) g8.hB))
              | (refine step_gr rfl (.tmp 76) (.tmp 81) rfl w8.heap.size a9 n9 c9 _ (by simp [Act.eval, Act.put]) g9 vo vl vc e.v (by simp [Act.eval, Act.put]) t9 (by omega) ?_; intro a10 n10 c10 w10 hn10 g10 m10; have x10 := m10.cell x9 o9; clear hn10))
            all_goals
              try simp only [List.getElem_toArray, List.getElem_cons_succ, List.getElem_cons_zero, List.setIfInBounds_toArray, List.set_cons_zero, List.set_cons_succ]
              have st8 := m8.other stM.1 stM.2
              have st9 : Gr w.heap.size w9 a5 n5 c5 _ := st8.1.later b9
              have dis9 : ∀ q ∈ own (.slice a5 n5 c5), q ∉ own (.slice a9 n9 c9) := fun q hq hq2 => by have h1 := (g9.lt q hq2).2; have h2 := (st8.1.lt q hq).1; omega
              have st10 := m10.other st9 dis9
              have B10 := (B7.trans (((bM.mono g7.hB).trans (m8.below gM)).trans (b9.mono g8.hB))).trans ((m10.below g9).mono g8.hB)
              have G10 := g10.mono (C := w.heap.size) g8.hB
              go_wp2
              go_roundw
              case rel =>
                refine ⟨k + 1, a10, n10, c10, a5, n5, c5, by omega, by go_num, rfl, rfl, (by first | rfl | (rw [hcnt'.out]) | go_num), qrel_step hX.out ?_ (by exact st10.1) st10.2 B10⟩
                rw [he.out, hXe.out]; simpa using G10
              case measure => simp [intOf]; omega
      · have t4 : ¬ (k : Int).tmod 4 = 0 := by rw [Int.tmod_eq_emod_of_nonneg (by omega)]; omega
        have t5 : ((k : Int).tmod 4 == 0) = false := by simp [t4]
        obtain ⟨q, hq⟩ : ∃ q, Hid (k = q + 1) := ⟨k - 1, by show _ = _; omega⟩
        have hqlt : q < len := by have := hq.out; omega
        have hy : l[q]? = some (l[q]'(by omega)) := by simp
        obtain ⟨jo, jl, jc, uo, ul, uc, d0, d1, d2, tj, tu⟩ := hc q _ hy
        have hfj := y4.out (l[q]'(by omega)) (List.getElem_mem _)
        have hjl := ((fitsE_iff _).1 hfj).2.1
        rw [tj.len_eq] at hjl
        have hpre : pre k (lastK [] (l.take k)) = (l[q]'(by omega)).k := pre_at h4 hq.out hy
        have c0r := fun d os => cell_regrown (cell_later hb c0) d os
        have d0r := fun d os => cell_regrown (cell_later hb d0) d os
        have hsha := fun d os => refshared_any jo (some ⟨kb, kf, none⟩) jl jc kl kc (l[q]'(by omega)).k e.k _ ((tj.later hb).later (below_regrown wr d os)) ((tk.later hb).later (below_regrown wr d os)) (by omega) (by omega)
        rw [← hpre] at hsha
        obtain ⟨s, hs⟩ : ∃ s, Hid (shared (pre k (lastK [] (l.take k))) e.k = s) := ⟨_, rfl⟩
        rw [hs.out] at hsha hsl
        have ei : (k : Int) - 1 = q := by have := hq.out; omega
        have hqi : (q : Int) < len := by omega
        have hcnt' : Hid ((k + 3) / 4 = (k + 1 + 3) / 4) := by show _ = _; omega
        clear hpre tj tu hfj d1 d2 hy
        go_wp2_with fail
        refine wp_region_quiet_below (by kernel_rfl) (by kernel_rfl) ?_
        repeat (go_big_quiet_step ((go_at_call 27; with_reducible exact Calls.regrown_of (hsha _ _))))
        (with_reducible refine wpQuiet_nil ?_)
        intro _ hw'
        obtain ⟨⟨dq, osq⟩, hw''⟩ := hw'
        subst hw''
        have b5 := below_regrown wr dq osq
        clear c0r d0r hsha
        generalize grow (redrawn wr dq) osq = w1 at b5 ⊢
        go_wp2_with fail
        have bV : Below w.heap.size w w1 := hb.trans (b5.mono hbz)
        have gV := hr.out.later b5
        have stV := hr.st.later b5
        have disV := hr.dis
        have tkV := tk.low.later bV
        have tvV := tv.low.later bV
        have hencg : G = true → Hid (encB (pre k (lastK [] (l.take k))) e = [(s : Int), ((kl - s : Nat) : Int)] ++ e.k.drop s ++ [0]) := fun hg => by show _ = _; rw [encB_gone _ e (by rw [hG.out]; exact hg), hs.out, lk]; simp
        have henct : G = false → Hid (encB (pre k (lastK [] (l.take k))) e = [(s : Int), ((kl - s : Nat) : Int)] ++ e.k.drop s ++ [1] ++ low 2 vl ++ e.v) := fun hg => by show _ = _; rw [encB_there _ e (by rw [hG.out]; exact hg), hs.out, lk, lv]; simp
        obtain ⟨D, hD⟩ : ∃ D : Nat, Hid (D = kl - s) := ⟨_, rfl⟩
        rw [← hD.out] at hencg henct
        have hw7 : IntKind.i64.wrap ((kl : Int) - (s : Int)) = D := by rw [IntKind.wrap_i64]; have := hD.out; omega
        have hw8 : IntKind.u8.wrap (IntKind.i64.wrap ((kl : Int) - (s : Int))) = D := by rw [hw7, IntKind.wrap_u8]; have := hD.out; omega
        clear hw7
        have hw9 : IntKind.u8.wrap (s : Int) = s := by rw [IntKind.wrap_u8]; omega
        have hDb : D ≤ 255 := by have := hD.out; omega
        have hkcap := tk.le
        have hcs : (kc ≤ s ∧ s ≤ kc) ∨ (¬ kc = s) := by omega
        rcases hcs with ⟨hc1, hc2⟩ | hcap
        · have tkr : ∀ (W : World), TxB w.heap.size W (some ⟨kb, kf, none⟩) kl kc e.k → Tx W (some ⟨kb, kf, none⟩) (kl - s) 0 (e.k.drop s) := fun W t => (t.1.rest s hsl).1 (by omega)
          have hcV : w1.drew.cell? ⟨b, off + k * 3, none⟩ = some (.slice (some ⟨kb, kf, none⟩) kl kc) := cell_later bV.drew c0
          have bL : Below w1.heap.size w1 (w1.alloc (.cells #[.int .u8 (IntKind.u8.wrap (s : Int)), .int .u8 (IntKind.u8.wrap (IntKind.i64.wrap ((kl : Int) - (s : Int))))] 5)).drew := ((Below.refl _ _).alloc (Nat.le_refl _) _).drew
          have tL : Tx (w1.alloc (.cells #[.int .u8 (IntKind.u8.wrap (s : Int)), .int .u8 (IntKind.u8.wrap (IntKind.i64.wrap ((kl : Int) - (s : Int))))] 5)).drew (some ⟨w1.heap.size, 0, none⟩) 2 2 [(s : Int), (D : Int)] := by rw [hw8, hw9]; exact tx_two_at w1 _ _ (by omega) (by omega)
          have gL := gV.later bL
          have hcL : (w1.alloc (.cells #[.int .u8 (IntKind.u8.wrap (s : Int)), .int .u8 (IntKind.u8.wrap (IntKind.i64.wrap ((kl : Int) - (s : Int))))] 5)).drew.cell? ⟨b, off + k * 3, none⟩ = some (.slice (some ⟨kb, kf, none⟩) kl kc) := cell_later (bV.trans (bL.mono bV.size)) c0
          clear hw8 hw9
          have tkL := tkV.later (bL.mono gV.hB)
          have tvL := tvV.later (bL.mono gV.hB)
          have stL := (Moves.of_below (v := .slice a3 n3 c3) bL).other stV disV
          have hnb : ∀ (x : Option Addr) (y z : Nat) (W : World) (zs : List Int), Gr w.heap.size W x y z zs → b ∉ own (.slice x y z) := fun x y z W zs g hq => by have h1 := (g.lt _ hq).2; have h2 := World.block_lt_of_cell? _ _ c0; simp at h2; omega
          obtain ⟨X, hXe⟩ : ∃ X, Hid (bodyL 0 [] (l.take k) = X) := ⟨_, rfl⟩
          rw [hXe.out] at gL
          go_region_held_law (fun w' => w'.cell? ⟨b, off + k * 3, none⟩ = some (.slice (some ⟨kb, kf, none⟩) kl kc)) (first | assumption | exact hcL) (first
            | (refine step_gr rfl (.tmp 36) (.tmp 48) rfl w.heap.size a3 n3 c3 X (by simp [Act.eval]) gL (some ⟨w1.heap.size, 0, none⟩) 2 2 [(s : Int), (D : Int)] (by simp [Act.eval]) tL (by omega) ?_; intro a6 n6 c6 w6 hn6 g6 m6; have q6 : n6 ≤ 1200002 := (by have := hn6.out; omega); have x6 := m6.cell hcL (hnb _ _ _ _ _ gL); have tk6 := tkL.later (m6.below gL); have tt6 := tkr _ tk6; clear hn6)
            | (refine step_gr rfl (.tmp 49) (.tmp 56) rfl w.heap.size a6 n6 c6 (X ++ [(s : Int), (D : Int)]) (by simp [Act.eval, Act.put]) g6 (some ⟨kb, kf, none⟩) (kl - s) 0 (e.k.drop s) (by simp [Act.eval, Act.put]; omega) tt6 (by omega) ?_; intro a7 n7 c7 w7 hn7 g7 m7; have q7 : n7 ≤ 1200300 := (by have := hn7.out; omega); have x7 := m7.cell x6 (hnb _ _ _ _ _ g6); clear hn7))
          all_goals
            try simp only [List.getElem_toArray, List.getElem_cons_succ, List.getElem_cons_zero, List.setIfInBounds_toArray, List.set_cons_zero, List.set_cons_succ]
            have B7 := bV.trans (((bL.mono gV.hB).trans (m6.below gL)).trans (m7.below g6))
            have d2 := cell_later B7 c2
            have st6 := m6.other stL.1 stL.2
            have st7 := m7.other st6.1 st6.2
            have tv7 := (tvL.later (m6.below gL)).later (m7.below g6)
            cases G with
            | true =>
              have he := hencg rfl
              have t8 := tx_one w7 0 (by omega)
              have g7a := g7.alloc (.cells #[.int .u8 0] 5)
              go_wp2_with (with_reducible show wpList _ _ _ (⟨some 65, _, _, _, _, _⟩ :: _) _ _; refine wpList_gr rfl _ _ rfl w.heap.size a7 n7 c7 _ rfl g7a (some ⟨w7.heap.size, 0, none⟩) 1 1 [0] rfl t8 (by omega) ?_; intro a8 n8 c8 w8 hn8 g8 m8)
              have bA : Below w7.heap.size w7 (w7.alloc (.cells #[.int .u8 0] 5)) := (Below.refl _ _).alloc (Nat.le_refl _) _
              have stA := (Moves.of_below (v := .slice a7 n7 c7) bA).other st7.1 st7.2
              have st8 := m8.other stA.1 stA.2
              go_roundw
              case rel =>
                refine ⟨k + 1, a8, n8, c8, a4, n4, c4, by omega, by go_num, rfl, rfl, (by congr 1; have := hcnt'.out; omega), qrel_step hX.out ?_ (by rw [if_neg h4, List.append_nil]; exact st8.1) st8.2 ?_⟩
                · rw [he.out, hXe.out]; simpa using g8
                · exact (B7.trans (bA.mono B7.size)).trans (m8.below g7a)
              case measure => simp [intOf]; omega
            | false =>
              have he := henct rfl
              have hv : vl ≤ 4095 := by simpa using f3
              have d1 : w7.drew.cell? ⟨b, off + k * 3 + 1, none⟩ = some (.slice vo vl vc) := cell_later B7.drew c1
              have hw64 : IntKind.u64.wrap (vl : Int) = vl := by rw [IntKind.wrap_u64]; omega
              have bM : Below w7.heap.size w7 (w7.alloc (.cells #[.int .u8 1] 5)).drew := ((Below.refl _ _).alloc (Nat.le_refl _) _).drew
              have tM : Tx (w7.alloc (.cells #[.int .u8 1] 5)).drew (some ⟨w7.heap.size, 0, none⟩) 1 1 [1] := (tx_one w7 1 (by omega)).later ((Below.refl _ _).drew)
              have gM := g7.later bM
              have dM : (w7.alloc (.cells #[.int .u8 1] 5)).drew.cell? ⟨b, off + k * 3 + 1, none⟩ = some (.slice vo vl vc) := cell_later (B7.trans (bM.mono B7.size)) c1
              have tvM := tv7.later (bM.mono g7.hB)
              have stM := (Moves.of_below (v := .slice a7 n7 c7) bM).other st7.1 st7.2
              have hl2 : (low 2 (vl : Int)).length = 2 := length_low _ _
              have hput := fun (a8 : Option Addr) (n8 c8 : Nat) (zs : List Int) (W : World) (t : Tx W a8 n8 c8 zs) (hn : n8 ≤ 1300000) => refput_own a8 n8 c8 (IntKind.u64.wrap (vl : Int)) 2 zs W t (by omega) (by rw [hw64]; omega) (by rw [hw64]; omega) (by omega) (by omega)
              have hc22 : clampN 2 = 2 := rfl
              have hlw : low 2 (IntKind.u64.wrap (vl : Int)) = low 2 (vl : Int) := by rw [hw64]
              simp only [hc22, hlw] at hput
              clear hw64 hlw
              generalize hL2 : low 2 (vl : Int) = L2 at hput he hl2
              go_wp2_with fail
              go_region_held_law (fun w' => w'.cell? ⟨b, off + k * 3 + 1, none⟩ = some (.slice vo vl vc)) (first | assumption | exact dM) (first
                | (refine step_gr rfl (.tmp 66) (.tmp 67) rfl w.heap.size a7 n7 c7 _ (by simp [Act.eval]) gM (some ⟨w7.heap.size, 0, none⟩) 1 1 [1] (by simp [Act.eval]) tM (by omega) ?_; intro a8 n8 c8 w8 hn8 g8 m8; have q8 : n8 ≤ 1200301 := (by have := hn8.out; omega); have x8 := m8.cell dM (hnb _ _ _ _ _ gM); have tv8 := tvM.later (m8.below gM); have p8 := hput a8 n8 c8 _ w8 g8.tx (by omega); clear hn8)
                | (go_at_call 26; with_reducible refine p8.mono ?_; rintro e9 w9 ⟨a9, n9, c9, rfl, g9, b9⟩; have x9 := cell_later b9 x8; have t9 := tv8.tx.later b9; have q9 : n9 ≤ 1200400 := gr_le g8 g9 hl2 (by omega); have o9 : b ∉ own (.slice a9 n9 c9) := hnb _ _ _ _ _ (g9.mono (C := w.heap.size) g8.hB))
                | (refine step_gr rfl (.tmp 76) (.tmp 81) rfl w8.heap.size a9 n9 c9 _ (by simp [Act.eval, Act.put]) g9 vo vl vc e.v (by simp [Act.eval, Act.put]) t9 (by omega) ?_; intro a10 n10 c10 w10 hn10 g10 m10; have x10 := m10.cell x9 o9; clear hn10))
              all_goals
                try simp only [List.getElem_toArray, List.getElem_cons_succ, List.getElem_cons_zero, List.setIfInBounds_toArray, List.set_cons_zero, List.set_cons_succ]
                have st8 := m8.other stM.1 stM.2
                have st9 : Gr w.heap.size w9 a4 n4 c4 _ := st8.1.later b9
                have dis9 : ∀ q ∈ own (.slice a4 n4 c4), q ∉ own (.slice a9 n9 c9) := fun q hq hq2 => by have h1 := (g9.lt q hq2).2; have h2 := (st8.1.lt q hq).1; omega
                have st10 := m10.other st9 dis9
                have B10 := (B7.trans (((bM.mono g7.hB).trans (m8.below gM)).trans (b9.mono g8.hB))).trans ((m10.below g9).mono g8.hB)
                have G10 := g10.mono (C := w.heap.size) g8.hB
                go_wp2
                go_roundw
                case rel =>
                  refine ⟨k + 1, a10, n10, c10, a4, n4, c4, by omega, by go_num, rfl, rfl, (by congr 1; have := hcnt'.out; omega), qrel_step hX.out ?_ (by rw [if_neg h4, List.append_nil]; exact st10.1) st10.2 B10⟩
                  rw [he.out, hXe.out]; simpa using G10
                case measure => simp [intOf]; omega
        · have tkr : ∀ (W : World), TxB w.heap.size W (some ⟨kb, kf, none⟩) kl kc e.k → Tx W (some ⟨kb, kf + s, none⟩) (kl - s) (kc - s) (e.k.drop s) := fun W t => (t.1.rest s hsl).2 hcap
          have hcV : w1.drew.cell? ⟨b, off + k * 3, none⟩ = some (.slice (some ⟨kb, kf, none⟩) kl kc) := cell_later bV.drew c0
          have bL : Below w1.heap.size w1 (w1.alloc (.cells #[.int .u8 (IntKind.u8.wrap (s : Int)), .int .u8 (IntKind.u8.wrap (IntKind.i64.wrap ((kl : Int) - (s : Int))))] 5)).drew := ((Below.refl _ _).alloc (Nat.le_refl _) _).drew
          have tL : Tx (w1.alloc (.cells #[.int .u8 (IntKind.u8.wrap (s : Int)), .int .u8 (IntKind.u8.wrap (IntKind.i64.wrap ((kl : Int) - (s : Int))))] 5)).drew (some ⟨w1.heap.size, 0, none⟩) 2 2 [(s : Int), (D : Int)] := by rw [hw8, hw9]; exact tx_two_at w1 _ _ (by omega) (by omega)
          have gL := gV.later bL
          have hcL : (w1.alloc (.cells #[.int .u8 (IntKind.u8.wrap (s : Int)), .int .u8 (IntKind.u8.wrap (IntKind.i64.wrap ((kl : Int) - (s : Int))))] 5)).drew.cell? ⟨b, off + k * 3, none⟩ = some (.slice (some ⟨kb, kf, none⟩) kl kc) := cell_later (bV.trans (bL.mono bV.size)) c0
          clear hw8 hw9
          have tkL := tkV.later (bL.mono gV.hB)
          have tvL := tvV.later (bL.mono gV.hB)
          have stL := (Moves.of_below (v := .slice a3 n3 c3) bL).other stV disV
          have hnb : ∀ (x : Option Addr) (y z : Nat) (W : World) (zs : List Int), Gr w.heap.size W x y z zs → b ∉ own (.slice x y z) := fun x y z W zs g hq => by have h1 := (g.lt _ hq).2; have h2 := World.block_lt_of_cell? _ _ c0; simp at h2; omega
          obtain ⟨X, hXe⟩ : ∃ X, Hid (bodyL 0 [] (l.take k) = X) := ⟨_, rfl⟩
          rw [hXe.out] at gL
          go_region_held_law (fun w' => w'.cell? ⟨b, off + k * 3, none⟩ = some (.slice (some ⟨kb, kf, none⟩) kl kc)) (first | assumption | exact hcL) (first
            | (refine step_gr rfl (.tmp 36) (.tmp 48) rfl w.heap.size a3 n3 c3 X (by simp [Act.eval]) gL (some ⟨w1.heap.size, 0, none⟩) 2 2 [(s : Int), (D : Int)] (by simp [Act.eval]) tL (by omega) ?_; intro a6 n6 c6 w6 hn6 g6 m6; have q6 : n6 ≤ 1200002 := (by have := hn6.out; omega); have x6 := m6.cell hcL (hnb _ _ _ _ _ gL); have tk6 := tkL.later (m6.below gL); have tt6 := tkr _ tk6; clear hn6)
            | (refine step_gr rfl (.tmp 49) (.tmp 56) rfl w.heap.size a6 n6 c6 (X ++ [(s : Int), (D : Int)]) (by simp [Act.eval, Act.put]) g6 (some ⟨kb, kf + s, none⟩) (kl - s) (kc - s) (e.k.drop s) (by simp [Act.eval, Act.put]) tt6 (by omega) ?_; intro a7 n7 c7 w7 hn7 g7 m7; have q7 : n7 ≤ 1200300 := (by have := hn7.out; omega); have x7 := m7.cell x6 (hnb _ _ _ _ _ g6); clear hn7))
          all_goals
            try simp only [List.getElem_toArray, List.getElem_cons_succ, List.getElem_cons_zero, List.setIfInBounds_toArray, List.set_cons_zero, List.set_cons_succ]
            have B7 := bV.trans (((bL.mono gV.hB).trans (m6.below gL)).trans (m7.below g6))
            have d2 := cell_later B7 c2
            have st6 := m6.other stL.1 stL.2
            have st7 := m7.other st6.1 st6.2
            have tv7 := (tvL.later (m6.below gL)).later (m7.below g6)
            cases G with
            | true =>
              have he := hencg rfl
              have t8 := tx_one w7 0 (by omega)
              have g7a := g7.alloc (.cells #[.int .u8 0] 5)
              go_wp2_with (with_reducible show wpList _ _ _ (⟨some 65, _, _, _, _, _⟩ :: _) _ _; refine wpList_gr rfl _ _ rfl w.heap.size a7 n7 c7 _ rfl g7a (some ⟨w7.heap.size, 0, none⟩) 1 1 [0] rfl t8 (by omega) ?_; intro a8 n8 c8 w8 hn8 g8 m8)
              have bA : Below w7.heap.size w7 (w7.alloc (.cells #[.int .u8 0] 5)) := (Below.refl _ _).alloc (Nat.le_refl _) _
              have stA := (Moves.of_below (v := .slice a7 n7 c7) bA).other st7.1 st7.2
              have st8 := m8.other stA.1 stA.2
              go_roundw
              case rel =>
                refine ⟨k + 1, a8, n8, c8, a4, n4, c4, by omega, by go_num, rfl, rfl, (by congr 1; have := hcnt'.out; omega), qrel_step hX.out ?_ (by rw [if_neg h4, List.append_nil]; exact st8.1) st8.2 ?_⟩
                · rw [he.out, hXe.out]; simpa using g8
                · exact (B7.trans (bA.mono B7.size)).trans (m8.below g7a)
              case measure => simp [intOf]; omega
            | false =>
              have he := henct rfl
              have hv : vl ≤ 4095 := by simpa using f3
              have d1 : w7.drew.cell? ⟨b, off + k * 3 + 1, none⟩ = some (.slice vo vl vc) := cell_later B7.drew c1
              have hw64 : IntKind.u64.wrap (vl : Int) = vl := by rw [IntKind.wrap_u64]; omega
              have bM : Below w7.heap.size w7 (w7.alloc (.cells #[.int .u8 1] 5)).drew := ((Below.refl _ _).alloc (Nat.le_refl _) _).drew
              have tM : Tx (w7.alloc (.cells #[.int .u8 1] 5)).drew (some ⟨w7.heap.size, 0, none⟩) 1 1 [1] := (tx_one w7 1 (by omega)).later ((Below.refl _ _).drew)
              have gM := g7.later bM
              have dM : (w7.alloc (.cells #[.int .u8 1] 5)).drew.cell? ⟨b, off + k * 3 + 1, none⟩ = some (.slice vo vl vc) := cell_later (B7.trans (bM.mono B7.size)) c1
              have tvM := tv7.later (bM.mono g7.hB)
              have stM := (Moves.of_below (v := .slice a7 n7 c7) bM).other st7.1 st7.2
              have hl2 : (low 2 (vl : Int)).length = 2 := length_low _ _
              have hput := fun (a8 : Option Addr) (n8 c8 : Nat) (zs : List Int) (W : World) (t : Tx W a8 n8 c8 zs) (hn : n8 ≤ 1300000) => refput_own a8 n8 c8 (IntKind.u64.wrap (vl : Int)) 2 zs W t (by omega) (by rw [hw64]; omega) (by rw [hw64]; omega) (by omega) (by omega)
              have hc22 : clampN 2 = 2 := rfl
              have hlw : low 2 (IntKind.u64.wrap (vl : Int)) = low 2 (vl : Int) := by rw [hw64]
              simp only [hc22, hlw] at hput
              clear hw64 hlw
              generalize hL2 : low 2 (vl : Int) = L2 at hput he hl2
              go_wp2_with fail
              go_region_held_law (fun w' => w'.cell? ⟨b, off + k * 3 + 1, none⟩ = some (.slice vo vl vc)) (first | assumption | exact dM) (first
                | (refine step_gr rfl (.tmp 66) (.tmp 67) rfl w.heap.size a7 n7 c7 _ (by simp [Act.eval]) gM (some ⟨w7.heap.size, 0, none⟩) 1 1 [1] (by simp [Act.eval]) tM (by omega) ?_; intro a8 n8 c8 w8 hn8 g8 m8; have q8 : n8 ≤ 1200301 := (by have := hn8.out; omega); have x8 := m8.cell dM (hnb _ _ _ _ _ gM); have tv8 := tvM.later (m8.below gM); have p8 := hput a8 n8 c8 _ w8 g8.tx (by omega); clear hn8)
                | (go_at_call 26; with_reducible refine p8.mono ?_; rintro e9 w9 ⟨a9, n9, c9, rfl, g9, b9⟩; have x9 := cell_later b9 x8; have t9 := tv8.tx.later b9; have q9 : n9 ≤ 1200400 := gr_le g8 g9 hl2 (by omega); have o9 : b ∉ own (.slice a9 n9 c9) := hnb _ _ _ _ _ (g9.mono (C := w.heap.size) g8.hB))
                | (refine step_gr rfl (.tmp 76) (.tmp 81) rfl w8.heap.size a9 n9 c9 _ (by simp [Act.eval, Act.put]) g9 vo vl vc e.v (by simp [Act.eval, Act.put]) t9 (by omega) ?_; intro a10 n10 c10 w10 hn10 g10 m10; have x10 := m10.cell x9 o9; clear hn10))
              all_goals
                try simp only [List.getElem_toArray, List.getElem_cons_succ, List.getElem_cons_zero, List.setIfInBounds_toArray, List.set_cons_zero, List.set_cons_succ]
                have st8 := m8.other stM.1 stM.2
                have st9 : Gr w.heap.size w9 a4 n4 c4 _ := st8.1.later b9
                have dis9 : ∀ q ∈ own (.slice a4 n4 c4), q ∉ own (.slice a9 n9 c9) := fun q hq hq2 => by have h1 := (g9.lt q hq2).2; have h2 := (st8.1.lt q hq).1; omega
                have st10 := m10.other st9 dis9
                have B10 := (B7.trans (((bM.mono g7.hB).trans (m8.below gM)).trans (b9.mono g8.hB))).trans ((m10.below g9).mono g8.hB)
                have G10 := g10.mono (C := w.heap.size) g8.hB
                go_wp2
                go_roundw
                case rel =>
                  refine ⟨k + 1, a10, n10, c10, a4, n4, c4, by omega, by go_num, rfl, rfl, (by congr 1; have := hcnt'.out; omega), qrel_step hX.out ?_ (by rw [if_neg h4, List.append_nil]; exact st10.1) st10.2 B10⟩
                  rw [he.out, hXe.out]; simpa using G10
                case measure => simp [intOf]; omega
    · have hkl : k = len := by omega
      have g3 := hr.out
      have g4 := hr.st
      have hb := hr.bel
      rw [List.take_of_length_le (by omega)] at g3 g4
      have hcn : (((k + 3) / 4 : Nat) : Int) = (cntB l : Int) := by unfold cntB; omega
      have hcb : cntB l ≤ 64 := by unfold cntB; omega
      have hend : Hid (bodyL 0 [] l ++ startL 0 0 [] l ++ [(cntB l : Int)] = blockL l) := by show _ = _; simp [blockL]
      rw [hcn]
      generalize cntB l = C at hcn hend hcb
      have hw8 : IntKind.u8.wrap (C : Int) = C := by rw [IntKind.wrap_u8]; omega
      clear hcn
      go_wp2_with (first
        | (with_reducible show wpList _ _ _ (⟨some 85, _, _, _, _, _⟩ :: _) _ _; refine wpList_gr rfl _ _ rfl w.heap.size a3 n3 c3 _ rfl g3 a4 n4 c4 _ rfl g4.tx (by omega) ?_; intro a7 n7 c7 w7 hn7 g7 m7; have q7 : n7 ≤ 1300000 := (by have := hn7.out; omega); have t8 := tx_one w7 C (by omega); have g7a := g7.alloc (.cells #[.int .u8 (C : Int)] 5))
        | (with_reducible show wpList _ _ _ (⟨some 89, _, _, _, _, _⟩ :: _) _ _; refine wpList_gr rfl _ _ rfl w.heap.size a7 n7 c7 _ rfl g7a (some ⟨w7.heap.size, 0, none⟩) 1 1 [(C : Int)] rfl t8 (by omega) ?_; intro a8 n8 c8 w8 hn8 g8 m8))
      go_ret
      have bA : Below w7.heap.size w7 (w7.alloc (.cells #[.int .u8 (C : Int)] 5)) := (Below.refl _ _).alloc (Nat.le_refl _) _
      have B7 := hb.trans (m7.below g3)
      exact ⟨a8, n8, c8, rfl, by rw [← hend.out]; exact g8, (B7.trans (bA.mono B7.size)).trans (m8.below g7a)⟩

end Go.Proofs.Yteeemfohehpaeaa
