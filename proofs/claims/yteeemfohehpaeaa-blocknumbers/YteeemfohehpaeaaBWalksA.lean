/- The walks of block.addEntry, block.fits and block.Build. -/
import Derived.Test.YteeemfohehpaeaaPA
import Derived.Test.YteeemfohehpaeaaFWalksH
import Derived.Test.YteeemfohehpaeaaPB
namespace Go.Proofs.Yteeemfohehpaeaa
set_option maxRecDepth 100000
open Go.RowKit

theorem encB_gone (p : List Int) (e : Ent) (h : e.g = true) : encB p e = [(shared p e.k : Int)] ++ [((e.k.length - shared p e.k : Nat) : Int)] ++ e.k.drop (shared p e.k) ++ [0] := by simp [encB, tailE, h]
theorem encB_there (p : List Int) (e : Ent) (h : e.g = false) : encB p e = [(shared p e.k : Int)] ++ [((e.k.length - shared p e.k : Nat) : Int)] ++ e.k.drop (shared p e.k) ++ [1] ++ low 2 e.v.length ++ e.v := by simp [encB, tailE, h]

/-- A Key without its first bytes, as the program slices it. -/
theorem Tx.rest {w : World} {b off : Nat} {len cap : Nat} {xs : List Int} (h : Tx w (some ⟨b, off, none⟩) len cap xs) (s : Nat) (hs : s ≤ len) : (cap = s → Tx w (some ⟨b, off, none⟩) (len - s) 0 (xs.drop s)) ∧ (¬ cap = s → Tx w (some ⟨b, off + s, none⟩) (len - s) (cap - s) (xs.drop s)) := by
  have hle := h.le
  have hl := h.len_eq
  refine ⟨fun hc => ?_, fun _ => h.drop s hs⟩
  have : xs.drop s = [] := List.drop_eq_nil_of_le (by omega)
  rw [this]; exact Tx.ended _ _ _ _ (by omega) (by unfold maxLen; omega)

set_option maxHeartbeats 2000000 in
theorem addent_any (B : Nat) (ao : Option Addr) (n cap : Nat) (xs : List Int) (po : Option Addr) (pl pc : Nat) (p : List Int) (ko vo : Option Addr) (kl kc vl vc : Nat) (e : Ent) (G : Bool) (hG : e.g = G) (hfit : fitsE e = true) (w : World) (g : Gr B w ao n cap xs) (hn : n ≤ 800000000)
    (tp : TxB B w po pl pc p) (tk : TxB B w ko kl kc e.k) (tv : TxB B w vo vl vc e.v) (hpl : pl ≤ 1000) :
    Calls Try.prog 58 #[.slice ao n cap, .slice po pl pc, .agg #[.slice ko kl kc, .slice vo vl vc, .bool G]] w fun r w' => ∃ ao' n' cap', r = .returned (.slice ao' n' cap') ∧ Gr B w' ao' n' cap' (xs ++ encB p e) ∧ Moves (.slice ao n cap) (.slice ao' n' cap') w w' := by
  obtain ⟨f1, f2, f3⟩ := (fitsE_iff e).1 hfit
  have lk := tk.1.len_eq
  have lv := tv.1.len_eq
  rw [lk] at f1 f2
  rw [lv] at f3
  obtain ⟨kb, kf, rfl, _⟩ := tk.1.head (by omega)
  have z1 : ∀ x : Int, [x].length = 1 := fun _ => rfl
  have hbel : Below w.heap.size w (w.alloc (.cells #[.slice (some ⟨kb, kf, none⟩) kl kc, .slice vo vl vc, .bool G] 25)) := (Below.refl _ _).alloc (Nat.le_refl _) _
  have bx1 := Box.new w (.slice (some ⟨kb, kf, none⟩) kl kc) (.slice vo vl vc) G
  have g1 := g.later hbel
  have nb := fresh_own g
  have tp1 := tp.later (hbel.mono g.hB)
  have tk1 := tk.later (hbel.mono g.hB)
  have tv1 := tv.later (hbel.mono g.hB)
  have m0 : Moves (.slice ao n cap) (.slice ao n cap) w (w.alloc (.cells #[.slice (some ⟨kb, kf, none⟩) kl kc, .slice vo vl vc, .bool G] 25)) := .of_below hbel
  have hsh := shared_any po (some ⟨kb, kf, none⟩) pl pc kl kc p e.k _ tp1.1 tk1.1 (by omega) (by omega)
  have hsl := (shared_le p e.k).2
  have hgone : e.g = true → Hid (encB p e = [(shared p e.k : Int)] ++ [((kl - shared p e.k : Nat) : Int)] ++ e.k.drop (shared p e.k) ++ [0]) := fun h => by show _ = _; rw [encB_gone p e h, lk]
  have hthere : e.g = false → Hid (encB p e = [(shared p e.k : Int)] ++ [((kl - shared p e.k : Nat) : Int)] ++ e.k.drop (shared p e.k) ++ [1] ++ low 2 vl ++ e.v) := fun h => by show _ = _; rw [encB_there p e h, lk, lv]
  generalize shared p e.k = s at hsh hsl hgone hthere
  rw [lk] at hsl
  have l1 : low 1 ((s : Nat) : Int) = [(s : Int)] := by rw [low1]; congr 1; omega
  obtain ⟨D, hD⟩ : ∃ D : Nat, Hid (D = kl - s) := ⟨_, rfl⟩
  have hDo := hD.out
  have l2 : low 1 ((D : Nat) : Int) = [(D : Int)] := by rw [low1]; congr 1; omega
  have esub : (kl : Int) - (s : Int) = (D : Int) := by omega
  have hD1 : D ≤ 255 := by omega
  rw [← hDo] at hgone hthere
  have hkcap := tk.1.le
  have hcs : (kc ≤ s ∧ s ≤ kc) ∨ (¬ kc = s) := by omega
  rcases hcs with ⟨hc1, hc2⟩ | hcap
  · have hcap : Hid (kc = s) := by show _ = _; omega
    have tkr : ∀ (V : World), TxB B V (some ⟨kb, kf, none⟩) kl kc e.k → Tx V (some ⟨kb, kf, none⟩) (kl - s) 0 (e.k.drop s) := fun V t => by exact (t.1.rest s hsl).1 hcap.out
    clear hDo
    cases G with
    | true =>
      have he := hgone hG
      go_enter Try.func58, Try.ntmps58
      go_wp2_with (first
        | (go_at_call 60; with_reducible refine hsh.mono ?_; rintro r w1 ⟨rfl, b1⟩; have bx2 := bx1.later b1; have g2 := g1.later b1; have tk2 := tk1.later (b1.mono g1.hB); have tv2 := tv1.later (b1.mono g1.hB); have d20 := bx2.c0; have d22 := bx2.c2; have m1 : Moves (.slice ao n cap) (.slice ao n cap) _ w1 := .of_below b1)
        | (go_at_call 57; with_reducible refine (addnum_any B ao n cap xs s s rfl 1 1 rfl (by omega) (by omega) _ g2 (by omega) [(s : Int)] l1).mono ?_; rintro r w3 ⟨a3, n3, c3, rfl, g3, m3⟩; have bx3 := bx2.moves m3 nb; have tk3 := tk2.later (m3.below g2); have tv3 := tv2.later (m3.below g2); have d30 := bx3.1.c0; have d32 := bx3.1.c2; have q3 : n3 ≤ 800000001 := gr_le g g3 (z1 _) (by omega))
        | (go_at_call 57; with_reducible refine (addnum_any B a3 n3 c3 _ D D rfl 1 1 rfl (by omega) (by omega) _ g3 (by omega) [(D : Int)] l2).mono ?_; rintro r w4 ⟨a4, n4, c4, rfl, g4, m4⟩; have bx4 := bx3.1.moves m4 bx3.2; have tk4 := tk3.later (m4.below g3); have tv4 := tv3.later (m4.below g3); have tr4 := tkr _ tk4; have d40 := bx4.1.c0; have d42 := bx4.1.c2; have q4 : n4 ≤ 800000002 := gr_le g3 g4 (z1 _) (by omega))
        | (with_reducible show wpList _ _ _ (⟨some 27, _, _, _, _, _⟩ :: _) _ _; refine wpList_gr rfl _ _ rfl B a4 n4 c4 _ rfl g4 _ _ _ (e.k.drop s) rfl tr4 (by omega) ?_; intro a5 l5 c5 w5 hl5 g5 m5; have bx5 := bx4.1.moves m5 bx4.2; have tv5 := tv4.later (m5.below g4); have d51 := bx5.1.c1; have d52 := bx5.1.c2; have q5 : l5 ≤ 800000300 := (by have := hl5.out; omega))
        | (go_at_call 57; with_reducible refine (addnum_any B a5 l5 c5 _ 0 0 rfl 1 1 rfl (by omega) (by omega) _ g5 (by omega) [0] rfl).mono ?_; rintro r w6 ⟨a6, n6, c6, rfl, g6, m6⟩))
      go_ret
      refine ⟨a6, n6, c6, rfl, ?_, (((((m0.trans m1).trans m3).trans m4).trans m5).trans m6)⟩
      rw [he.out]
      simpa using g6
    | false =>
      have he := hthere hG
      have hv : vl ≤ 4095 := by simpa [hG] using f3
      have hl2 : (low 2 (vl : Int)).length = 2 := length_low _ _
      generalize hL : low 2 (vl : Int) = L2 at he hl2
      go_enter Try.func58, Try.ntmps58
      go_wp2_with (first
        | (go_at_call 60; with_reducible refine hsh.mono ?_; rintro r w1 ⟨rfl, b1⟩; have bx2 := bx1.later b1; have g2 := g1.later b1; have tk2 := tk1.later (b1.mono g1.hB); have tv2 := tv1.later (b1.mono g1.hB); have d20 := bx2.c0; have d22 := bx2.c2; have m1 : Moves (.slice ao n cap) (.slice ao n cap) _ w1 := .of_below b1)
        | (go_at_call 57; with_reducible refine (addnum_any B ao n cap xs s s rfl 1 1 rfl (by omega) (by omega) _ g2 (by omega) [(s : Int)] l1).mono ?_; rintro r w3 ⟨a3, n3, c3, rfl, g3, m3⟩; have bx3 := bx2.moves m3 nb; have tk3 := tk2.later (m3.below g2); have tv3 := tv2.later (m3.below g2); have d30 := bx3.1.c0; have d32 := bx3.1.c2; have q3 : n3 ≤ 800000001 := gr_le g g3 (z1 _) (by omega))
        | (go_at_call 57; with_reducible refine (addnum_any B a3 n3 c3 _ D D rfl 1 1 rfl (by omega) (by omega) _ g3 (by omega) [(D : Int)] l2).mono ?_; rintro r w4 ⟨a4, n4, c4, rfl, g4, m4⟩; have bx4 := bx3.1.moves m4 bx3.2; have tk4 := tk3.later (m4.below g3); have tv4 := tv3.later (m4.below g3); have tr4 := tkr _ tk4; have d40 := bx4.1.c0; have d42 := bx4.1.c2; have q4 : n4 ≤ 800000002 := gr_le g3 g4 (z1 _) (by omega))
        | (with_reducible show wpList _ _ _ (⟨some 27, _, _, _, _, _⟩ :: _) _ _; refine wpList_gr rfl _ _ rfl B a4 n4 c4 _ rfl g4 _ _ _ (e.k.drop s) rfl tr4 (by omega) ?_; intro a5 l5 c5 w5 hl5 g5 m5; have bx5 := bx4.1.moves m5 bx4.2; have tv5 := tv4.later (m5.below g4); have d51 := bx5.1.c1; have d52 := bx5.1.c2; have q5 : l5 ≤ 800000300 := (by have := hl5.out; omega))
        | (go_at_call 57; with_reducible refine (addnum_any B a5 l5 c5 _ 1 1 rfl 1 1 rfl (by omega) (by omega) _ g5 (by omega) [1] rfl).mono ?_; rintro r w6 ⟨a6, n6, c6, rfl, g6, m6⟩; have bx6 := bx5.1.moves m6 bx5.2; have tv6 := tv5.later (m6.below g5); have d61 := bx6.1.c1; have q6 : n6 ≤ 800000301 := gr_le g5 g6 (z1 _) (by omega))
        | (go_at_call 57; with_reducible refine (addnum_any B a6 n6 c6 _ vl vl rfl 2 2 rfl (by omega) (by omega) _ g6 (by omega) L2 hL).mono ?_; rintro r w7 ⟨a7, n7, c7, rfl, g7, m7⟩; have bx7 := bx6.1.moves m7 bx6.2; have tv7 := (tv6.later (m7.below g6)).1; have d71 := bx7.1.c1; have q7 : n7 ≤ 800000400 := gr_le g6 g7 hl2 (by omega))
        | (with_reducible show wpList _ _ _ (⟨some 42, _, _, _, _, _⟩ :: _) _ _; refine wpList_gr rfl _ _ rfl B a7 n7 c7 _ rfl g7 vo vl vc e.v rfl tv7 (by omega) ?_; intro a8 l8 c8 w8 hl8 g8 m8))
      go_ret
      refine ⟨a8, l8, c8, rfl, ?_, (((((((m0.trans m1).trans m3).trans m4).trans m5).trans m6).trans m7).trans m8)⟩
      rw [he.out]
      simpa using g8
  · have tkr : ∀ (V : World), TxB B V (some ⟨kb, kf, none⟩) kl kc e.k → Tx V (some ⟨kb, kf + s, none⟩) (kl - s) (kc - s) (e.k.drop s) := fun V t => by exact (t.1.rest s hsl).2 hcap
    clear hDo
    cases G with
    | true =>
      have he := hgone hG
      go_enter Try.func58, Try.ntmps58
      go_wp2_with (first
        | (go_at_call 60; with_reducible refine hsh.mono ?_; rintro r w1 ⟨rfl, b1⟩; have bx2 := bx1.later b1; have g2 := g1.later b1; have tk2 := tk1.later (b1.mono g1.hB); have tv2 := tv1.later (b1.mono g1.hB); have d20 := bx2.c0; have d22 := bx2.c2; have m1 : Moves (.slice ao n cap) (.slice ao n cap) _ w1 := .of_below b1)
        | (go_at_call 57; with_reducible refine (addnum_any B ao n cap xs s s rfl 1 1 rfl (by omega) (by omega) _ g2 (by omega) [(s : Int)] l1).mono ?_; rintro r w3 ⟨a3, n3, c3, rfl, g3, m3⟩; have bx3 := bx2.moves m3 nb; have tk3 := tk2.later (m3.below g2); have tv3 := tv2.later (m3.below g2); have d30 := bx3.1.c0; have d32 := bx3.1.c2; have q3 : n3 ≤ 800000001 := gr_le g g3 (z1 _) (by omega))
        | (go_at_call 57; with_reducible refine (addnum_any B a3 n3 c3 _ D D rfl 1 1 rfl (by omega) (by omega) _ g3 (by omega) [(D : Int)] l2).mono ?_; rintro r w4 ⟨a4, n4, c4, rfl, g4, m4⟩; have bx4 := bx3.1.moves m4 bx3.2; have tk4 := tk3.later (m4.below g3); have tv4 := tv3.later (m4.below g3); have tr4 := tkr _ tk4; have d40 := bx4.1.c0; have d42 := bx4.1.c2; have q4 : n4 ≤ 800000002 := gr_le g3 g4 (z1 _) (by omega))
        | (with_reducible show wpList _ _ _ (⟨some 27, _, _, _, _, _⟩ :: _) _ _; refine wpList_gr rfl _ _ rfl B a4 n4 c4 _ rfl g4 _ _ _ (e.k.drop s) rfl tr4 (by omega) ?_; intro a5 l5 c5 w5 hl5 g5 m5; have bx5 := bx4.1.moves m5 bx4.2; have tv5 := tv4.later (m5.below g4); have d51 := bx5.1.c1; have d52 := bx5.1.c2; have q5 : l5 ≤ 800000300 := (by have := hl5.out; omega))
        | (go_at_call 57; with_reducible refine (addnum_any B a5 l5 c5 _ 0 0 rfl 1 1 rfl (by omega) (by omega) _ g5 (by omega) [0] rfl).mono ?_; rintro r w6 ⟨a6, n6, c6, rfl, g6, m6⟩))
      go_ret
      refine ⟨a6, n6, c6, rfl, ?_, (((((m0.trans m1).trans m3).trans m4).trans m5).trans m6)⟩
      rw [he.out]
      simpa using g6
    | false =>
      have he := hthere hG
      have hv : vl ≤ 4095 := by simpa [hG] using f3
      have hl2 : (low 2 (vl : Int)).length = 2 := length_low _ _
      generalize hL : low 2 (vl : Int) = L2 at he hl2
      go_enter Try.func58, Try.ntmps58
      go_wp2_with (first
        | (go_at_call 60; with_reducible refine hsh.mono ?_; rintro r w1 ⟨rfl, b1⟩; have bx2 := bx1.later b1; have g2 := g1.later b1; have tk2 := tk1.later (b1.mono g1.hB); have tv2 := tv1.later (b1.mono g1.hB); have d20 := bx2.c0; have d22 := bx2.c2; have m1 : Moves (.slice ao n cap) (.slice ao n cap) _ w1 := .of_below b1)
        | (go_at_call 57; with_reducible refine (addnum_any B ao n cap xs s s rfl 1 1 rfl (by omega) (by omega) _ g2 (by omega) [(s : Int)] l1).mono ?_; rintro r w3 ⟨a3, n3, c3, rfl, g3, m3⟩; have bx3 := bx2.moves m3 nb; have tk3 := tk2.later (m3.below g2); have tv3 := tv2.later (m3.below g2); have d30 := bx3.1.c0; have d32 := bx3.1.c2; have q3 : n3 ≤ 800000001 := gr_le g g3 (z1 _) (by omega))
        | (go_at_call 57; with_reducible refine (addnum_any B a3 n3 c3 _ D D rfl 1 1 rfl (by omega) (by omega) _ g3 (by omega) [(D : Int)] l2).mono ?_; rintro r w4 ⟨a4, n4, c4, rfl, g4, m4⟩; have bx4 := bx3.1.moves m4 bx3.2; have tk4 := tk3.later (m4.below g3); have tv4 := tv3.later (m4.below g3); have tr4 := tkr _ tk4; have d40 := bx4.1.c0; have d42 := bx4.1.c2; have q4 : n4 ≤ 800000002 := gr_le g3 g4 (z1 _) (by omega))
        | (with_reducible show wpList _ _ _ (⟨some 27, _, _, _, _, _⟩ :: _) _ _; refine wpList_gr rfl _ _ rfl B a4 n4 c4 _ rfl g4 _ _ _ (e.k.drop s) rfl tr4 (by omega) ?_; intro a5 l5 c5 w5 hl5 g5 m5; have bx5 := bx4.1.moves m5 bx4.2; have tv5 := tv4.later (m5.below g4); have d51 := bx5.1.c1; have d52 := bx5.1.c2; have q5 : l5 ≤ 800000300 := (by have := hl5.out; omega))
        | (go_at_call 57; with_reducible refine (addnum_any B a5 l5 c5 _ 1 1 rfl 1 1 rfl (by omega) (by omega) _ g5 (by omega) [1] rfl).mono ?_; rintro r w6 ⟨a6, n6, c6, rfl, g6, m6⟩; have bx6 := bx5.1.moves m6 bx5.2; have tv6 := tv5.later (m6.below g5); have d61 := bx6.1.c1; have q6 : n6 ≤ 800000301 := gr_le g5 g6 (z1 _) (by omega))
        | (go_at_call 57; with_reducible refine (addnum_any B a6 n6 c6 _ vl vl rfl 2 2 rfl (by omega) (by omega) _ g6 (by omega) L2 hL).mono ?_; rintro r w7 ⟨a7, n7, c7, rfl, g7, m7⟩; have bx7 := bx6.1.moves m7 bx6.2; have tv7 := (tv6.later (m7.below g6)).1; have d71 := bx7.1.c1; have q7 : n7 ≤ 800000400 := gr_le g6 g7 hl2 (by omega))
        | (with_reducible show wpList _ _ _ (⟨some 42, _, _, _, _, _⟩ :: _) _ _; refine wpList_gr rfl _ _ rfl B a7 n7 c7 _ rfl g7 vo vl vc e.v rfl tv7 (by omega) ?_; intro a8 l8 c8 w8 hl8 g8 m8))
      go_ret
      refine ⟨a8, l8, c8, rfl, ?_, (((((((m0.trans m1).trans m3).trans m4).trans m5).trans m6).trans m7).trans m8)⟩
      rw [he.out]
      simpa using g8

end Go.Proofs.Yteeemfohehpaeaa
