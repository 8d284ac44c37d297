/- The walk of block.Build. -/
import Derived.Test.YteeemfohehpaeaaBWalksB
namespace Go.Proofs.Yteeemfohehpaeaa
set_option maxRecDepth 100000
open Go.RowKit

/-- One entry more, behind the call of addEntry. -/
theorem brel_step {w w3 : World} {l : List Ent} {k : Nat} {a4 : Option Addr} {n4 c4 : Nat} {a5 : Option Addr} {n5 c5 : Nat} {e : Ent} (hx : l[k]? = some e) {B3 : Gr w.heap.size w3 a4 n4 c4 (bodyL 0 [] (l.take k) ++ encB (pre k (lastK [] (l.take k))) e)}
    (g5 : Gr w.heap.size w3 a5 n5 c5 (startL 0 0 [] (l.take k) ++ (if k % 4 = 0 then low 2 ((bodyL 0 [] (l.take k)).length : Nat) else []))) (dis : ∀ q ∈ own (.slice a5 n5 c5), q ∉ own (.slice a4 n4 c4)) {ko : Option Addr} {kl kc : Nat} (tk : TxB w.heap.size w3 ko kl kc e.k) (hk : kl ≤ 255) (hf : fitB 0 0 [] (l.take k) = true) (hlong : k % 4 = 0 → (bodyL 0 [] (l.take k)).length ≤ 65535) (hb : Below w.heap.size w w3) :
    BRel w w3 l (k + 1) a4 n4 c4 a5 n5 c5 ko kl kc := by
  have hlen := len_take hx
  refine ⟨?_, ?_, dis, ?_, hk, ?_, hb⟩
  · rw [take_snoc l k e hx, bodyL_snoc, hlen, Nat.zero_add]; exact B3
  · rw [take_snoc l k e hx, startL_snoc, hlen, Nat.zero_add, Nat.zero_add]; exact g5
  · rw [take_snoc l k e hx, lastK_snoc]; exact tk
  · rw [take_snoc l k e hx, fitB_snoc, hlen, Nat.zero_add, Nat.zero_add, hf]; simp only [Bool.true_and, decide_eq_true_eq]; exact hlong
theorem brel_long {l : List Ent} {k : Nat} {e : Ent} (hx : l[k]? = some e) (h4 : k % 4 = 0) (hl : 65535 < (bodyL 0 [] (l.take k)).length) : fitB 0 0 [] l = false := by
  refine fit_take l (k + 1) ?_
  rw [take_snoc l k e hx, fitB_snoc, len_take hx, Nat.zero_add, Nat.zero_add]
  simp [h4]; omega

set_option maxHeartbeats 4000000 in
theorem build_any (ao : Option Addr) (len cap : Nat) (l : List Ent) (w : World) (h : Lx 3 RE w ao len cap l) (hs : ∀ e ∈ l, e.k.length ≤ 1000000000000) :
    Calls Try.prog 32 #[.slice ao len cap] w fun e w' => BuildPost w l e w' := by
  have hl := h.len_eq
  have hfits := bfits_any ao len cap l w h hs
  cases hm : mayB 255 l with
  | false =>
    rw [hm] at hfits
    have hm : Hid (mayB 255 l = false) := hm
    go_enter Try.func32, Try.ntmps32
    go_wp2_with (go_at_call 56; with_reducible refine hfits.mono ?_; rintro r w1 ⟨rfl, b1⟩)
    go_ret2
    exact .inl ⟨hm.out, rfl, b1⟩
  | true =>
    rw [hm] at hfits
    obtain ⟨y1, y2, y3⟩ := (mayB_iff 255 l).1 hm
    have hm : Hid (mayB 255 l = true) := hm
    have y4 : Hid (∀ e ∈ l, fitsE e = true) := okL_fits l [] y3
    have y3 : Hid (okL [] l = true) := y3
    obtain ⟨b, off, rfl, hc⟩ := h.headE (by omega)
    go_enter Try.func32, Try.ntmps32
    go_wp2_with (go_at_call 56; with_reducible refine hfits.mono ?_; rintro r w0 ⟨rfl, b0⟩)
    go_loopw [4, 5, 6, 7, 14] (fun s4 s5 s6 _ i wr => ∃ (k : Nat) (a4 : Option Addr) (n4 c4 : Nat) (a5 : Option Addr) (n5 c5 : Nat) (a6 : Option Addr) (n6 c6 : Nat), k ≤ len ∧ i = .int .i64 k ∧ s4 = .slice a4 n4 c4 ∧ s5 = .slice a5 n5 c5 ∧ s6 = .slice a6 n6 c6 ∧ BRel w wr l k a4 n4 c4 a5 n5 c5 a6 n6 c6) (fun _ _ _ _ i _ => len - (intOf i).toNat)
    case atStart => exact ⟨0, none, 0, 0, none, 0, 0, none, 0, 0, by omega, rfl, rfl, rfl, rfl, brel_start l b0⟩
    case round =>
      obtain ⟨k, a4, n4, c4, a5, n5, c5, a6, n6, c6, hk, rfl, rfl, rfl, rfl, hr⟩ := hrel
      have ln4 := hr.out.len
      have ln5 := hr.st.len
      have hn4 : n4 ≤ 1200000 := by have := body_small l k y3.out y2; omega
      have hn5 : n5 ≤ 130 := by have := start_small l k y2; omega
      by_cases hk2 : k < len
      · have hx : l[k]? = some (l[k]'(by omega)) := by simp
        obtain ⟨ko, kl, kc, vo, vl, vc, c0, c1, c2, tk, tv⟩ := hc k _ hx
        have hfe := y4.out (l[k]'(by omega)) (List.getElem_mem _)
        generalize l[k]'(by omega) = e at c2 tk tv hfe hx
        have hx : Hid (l[k]? = some e) := hx
        obtain ⟨f1, f2, f3⟩ := (fitsE_iff e).1 hfe
        rw [tk.len_eq] at f1 f2
        have hb := hr.bel
        have c0 := cell_later hb c0
        have c1 := cell_later hb c1
        have c2 := cell_later hb c2
        have tkB := tk.low.later hb
        have tvB := tv.low.later hb
        obtain ⟨G, hG⟩ : ∃ G, Hid (e.g = G) := ⟨_, rfl⟩
        rw [hG.out] at c2
        have hbz := hb.size
        have bx := Box.new wr (.slice ko kl kc) (.slice vo vl vc) G
        have bV : Below wr.heap.size wr (wr.alloc (.cells #[.slice ko kl kc, .slice vo vl vc, .bool G] 25)) := (Below.refl _ _).alloc (Nat.le_refl _) _
        have gV4 := hr.out.later bV
        have gV5 := hr.st.later bV
        have nb4 := fresh_own hr.out
        have nb5 := fresh_own hr.st
        have tkV := tkB.later (bV.mono hbz)
        have tvV := tvB.later (bV.mono hbz)
        have tpV := hr.tp.later (bV.mono hbz)
        have hd := hr.dis
        have hfit := hr.fit
        have hp6 := hr.hp
        have hfit : Hid (fitB 0 0 [] (l.take k) = true) := hfit
        have ln4 : Hid ((bodyL 0 [] (l.take k)).length = n4) := ln4
        by_cases h4 : k % 4 = 0
        · have hpre : Hid (pre k (lastK [] (l.take k)) = []) := by show _ = _; simp [pre, h4]
          have t4 : (k : Int).tmod 4 = 0 := by rw [Int.tmod_eq_emod_of_nonneg (by omega)]; omega
          by_cases hlong : 65535 < n4
          · have hno : Hid (fitB 0 0 [] l = false) := brel_long hx.out h4 (by rw [ln4.out]; exact hlong)
            go_wp2
            go_ret2
            exact .inr (.inl ⟨hm.out, hno.out, rfl, hb.trans (bV.mono hbz)⟩)
          · have hset : Hid (startL 0 0 [] (l.take k) ++ low 2 n4 = startL 0 0 [] (l.take k) ++ (if k % 4 = 0 then low 2 ((bodyL 0 [] (l.take k)).length : Nat) else [])) := by show _ = _; rw [if_pos h4, ln4.out]
            have hadd := addnum_any w.heap.size a5 n5 c5 _ n4 n4 rfl 2 2 rfl (by omega) (by omega) _ gV5 (by omega) (low 2 n4) rfl
            have hl2 : (low 2 (n4 : Int)).length = 2 := length_low _ _
            generalize low 2 (n4 : Int) = L2 at hadd hset hl2
            go_wp2_with (first
              | (go_at_call 57; with_reducible refine hadd.mono ?_; rintro r w1 ⟨a5', n5', c5', rfl, g5, m5⟩; have o4 := m5.other gV4 (dis_symm hd); have d5 := m5.dis gV4 hd; have bx1 := bx.moves m5 nb5; have tk1 := tkV.later (m5.below gV5); have tv1 := tvV.later (m5.below gV5); have q0 := bx1.1.c0; have q1 := bx1.1.c1; have q2 := bx1.1.c2; have hent := addent_any w.heap.size a4 n4 c4 _ none 0 0 [] ko vo kl kc vl vc e G hG.out hfe w1 o4.1 (by omega) ⟨Tx.nil _, fun _ hh => (by cases hh)⟩ tk1 tv1 (by omega))
              | (go_at_call 58; with_reducible refine hent.mono ?_; rintro r w3 ⟨a3, n3, c3, rfl, g3, m3⟩; have o5 := m3.other g5 d5; have bx3 := bx1.1.moves m3 nb4; have r0 := bx3.1.c0; have tk3 := tk1.later (m3.below o4.1)))
            go_roundw
            case rel =>
              refine ⟨k + 1, a3, n3, c3, a5', n5', c5', ko, kl, kc, by omega, by go_num, rfl, rfl, rfl, brel_step hx.out (B3 := by rw [hpre.out]; exact g3) (by rw [← hset.out]; exact o5.1) o5.2 tk3 f2 hfit.out (fun _ => by rw [ln4.out]; omega) ?_⟩
              exact ((hb.trans (bV.mono hbz)).trans (m5.below gV5)).trans (m3.below o4.1)
            case measure => simp [intOf]; omega
        · have hpre : Hid (pre k (lastK [] (l.take k)) = lastK [] (l.take k)) := by show _ = _; simp [pre, h4]
          have t4 : ¬ (k : Int).tmod 4 = 0 := by rw [Int.tmod_eq_emod_of_nonneg (by omega)]; omega
          have t5 : ((k : Int).tmod 4 == 0) = false := by simp [t4]
          have hent := addent_any w.heap.size a4 n4 c4 _ a6 n6 c6 _ ko vo kl kc vl vc e G hG.out hfe _ gV4 (by omega) tpV tkV tvV (by omega)
          rw [← hpre.out] at hent
          go_wp2_with (go_at_call 58; with_reducible refine hent.mono ?_; rintro r w3 ⟨a3, n3, c3, rfl, g3, m3⟩; have o5 := m3.other gV5 hd; have bx3 := bx.moves m3 nb4; have r0 := bx3.1.c0; have tk3 := tkV.later (m3.below gV4))
          go_roundw
          case rel =>
            refine ⟨k + 1, a3, n3, c3, a5, n5, c5, ko, kl, kc, by omega, by go_num, rfl, rfl, rfl, brel_step hx.out (B3 := g3) (by rw [if_neg h4, List.append_nil]; exact o5.1) o5.2 tk3 f2 hfit.out (fun hh => absurd hh h4) ?_⟩
            exact (hb.trans (bV.mono hbz)).trans (m3.below gV4)
          case measure => simp [intOf]; omega
      · have hkl : k = len := by omega
        have hfit : Hid (fitB 0 0 [] l = true) := by show _ = _; have := hr.fit; rwa [List.take_of_length_le (by omega)] at this
        have g4 := hr.out
        have g5 := hr.st
        have hd := hr.dis
        have hb := hr.bel
        rw [List.take_of_length_le (by omega)] at g4 g5
        have hcn := g5.len
        rw [start_cnt] at hcn
        have hdiv : (n5 : Int).tdiv 2 = (cntB l : Int) := by rw [Int.tdiv_eq_ediv_of_nonneg (by omega)]; omega
        have l1 := cnt_low l y2
        have hend : Hid (bodyL 0 [] l ++ startL 0 0 [] l ++ [(cntB l : Int)] = blockL l) := by show _ = _; simp [blockL]
        have hcb : cntB l ≤ 64 := by unfold cntB; omega
        generalize cntB l = C at hcn hdiv l1 hend hcb
        go_wp2_with (first
          | (with_reducible show wpList _ _ _ (⟨some 38, _, _, _, _, _⟩ :: _) _ _; refine wpList_gr rfl _ _ rfl w.heap.size a4 n4 c4 _ rfl g4 a5 n5 c5 _ rfl g5.tx (by omega) ?_; intro a7 n7 c7 w7 hn7 g7 m7; have q7 : n7 ≤ 1300000 := (by have := hn7.out; omega))
          | (go_at_call 57; with_reducible refine (addnum_any w.heap.size a7 n7 c7 _ C C rfl 1 1 rfl (by omega) (by omega) _ g7 (by omega) [(C : Int)] l1).mono ?_; rintro r w8 ⟨a8, n8, c8, rfl, g8, m8⟩))
        go_ret2
        refine .inr (.inr ⟨hm.out, hfit.out, a8, n8, c8, rfl, by rw [← hend.out]; exact g8, ?_⟩)
        exact (hb.trans (m7.below g4)).trans (m8.below g7)

end Go.Proofs.Yteeemfohehpaeaa
