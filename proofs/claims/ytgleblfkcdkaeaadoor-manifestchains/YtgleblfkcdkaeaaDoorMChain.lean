/- The walk of ManifestChains: many lists, one behind the other. -/
import Derived.Test.YtgleblfkcdkaeaaDoorMCrash
import Derived.Test.YtgleblfkcdkaeaaDoorMOpenX
namespace Go.Proofs.YtgleblfkcdkaeaaDoor
set_option maxRecDepth 100000
open Go.RowKit Go.Sort

theorem names_x {B : Nat} {Z : List Nat} {w : World} {pb : Nat} {d : Dm} (h : Dx B Z w pb d) (n : Nat) (hn : d.files.length = n) (h1 : n ≤ 1000) :
    Calls Tryd.prog 28 #[.pointer (some ⟨pb, 0, none⟩)] w fun e w' => (∃ ao cap, e = .returned (.slice ao n cap)) ∧ Below w.heap.size w w' := by
  subst hn
  obtain ⟨fv, vs, S, K, hS, hB, hZ⟩ := h
  refine (names_any pb d fv vs S w K (by omega)).mono ?_
  rintro e w' ⟨ao, cap, rfl, _, _, hb⟩
  exact ⟨⟨ao, cap, rfl⟩, hb⟩
theorem Dx.mores {B : Nat} {Z : List Nat} {w w' : World} {pb : Nat} {d : Dm} (h : Dx B Z w pb d) (hb : Below w.heap.size w w') (G : List Nat) (hg : ∀ g ∈ G, w.heap.size ≤ g ∧ g < w'.heap.size) : Dx B (G ++ Z) w' pb d := by
  obtain ⟨fv, vs, S, D, hS, hB, hZ⟩ := h
  refine ⟨fv, vs, S, D.later hb, fun k hk => ⟨(hS k hk).1, fun e => ?_⟩, Nat.le_trans hB hb.size, fun k hk => ?_⟩
  · rcases List.mem_append.1 e with e | e
    · have := D.lt _ hk; have := hg k e; omega
    · exact (hS k hk).2 e
  · rcases List.mem_append.1 hk with e | e
    · exact (hg k e).2
    · exact Nat.lt_of_lt_of_le (hZ k e) hb.size
theorem chain_st (x : Option (List Int)) : Stands ((x.map (fun b => fL b b.length)).toList) (x.map (fun b => (b, b.length))) := by
  cases x
  · exact st_none
  · exact st_one _ _

/-- A disk that a loop goes on with: none or one list on it, of a list that may be. -/
def Ch (B : Nat) (w : World) (pb : Nat) : Prop := ∃ x : Option (List Int), (∀ b, x = some b → b.length ≤ 49) ∧ Dx B [] w pb ⟨16777216, (x.map (fun b => fL b b.length)).toList, 0, false⟩

set_option maxHeartbeats 16000000 in
theorem chains_walk (ao : Option Addr) (la ca : Nat) (xss : List (List Int)) (wal : Int) (w1 : -9223372036854775808 ≤ wal) (w2 : wal ≤ 9223372036854775807) (w : World) (ha : Lr w ao la ca xss) :
    Calls Tryd.prog 7 #[.slice ao la ca, .int .i64 wal] w fun e w' => e = .returned (.bool true) ∧ Below w.heap.size w w' := by
  have e1 := ha.len_eq
  have hle := ha.le
  have htop := ha.top
  unfold maxLen at htop
  go_enter Tryd.func7, Tryd.ntmps7
  go_wp2_with fail
  with_reducible refine (fresh_x w).mono ?_
  rintro e W1 ⟨rfl, d0, b1⟩
  go_wp2
  go_loopw [6] (fun i wr => ∃ k : Nat, k ≤ la ∧ k ≤ 8 ∧ i = .int .i64 k ∧ Ch w.heap.size wr w.heap.size ∧ Below w.heap.size w wr) (fun i _ => 9 - (intOf i).toNat)
  case atStart => exact ⟨0, by omega, by omega, rfl, ⟨none, by simp, d0⟩, b1⟩
  case round =>
    obtain ⟨k, hk, hk8, rfl, ⟨x0, hx49, d0⟩, bwr⟩ := hrel
    by_cases hgo : k < la ∧ k < 8
    · obtain ⟨g1, g2⟩ := hgo
      obtain ⟨b, off, rfl, hc⟩ := ha.head (by omega)
      have hx : xss[k]? = some (xss[k]'(by omega)) := by simp
      obtain ⟨eo, el, ec, c0, lx⟩ := hc k _ hx
      generalize xss[k]'(by omega) = xs at hx lx
      have c0 := cell_later bwr c0
      have hmade := made_any eo el ec xs wal (1 + (k : Int)) wr (lx.later RI.stable bwr) ⟨w1, w2⟩ (by unfold i64ok; omega)
      clear hc hx lx
      go_wp2_with fail
      with_reducible refine hmade.mono ?_
      rintro e W2 ⟨⟨m, v, rfl, hm, hR, h12, _⟩, b2⟩
      obtain ⟨mo, ml, mc, rfl, lm, hnew⟩ := hm
      obtain ⟨mw1, mn1⟩ := right_i64 hR
      obtain ⟨V, hV, mx, my, bV⟩ := two_boxes W2 (.slice mo ml mc) (.int .i64 m.wal) (.int .i64 m.nxt) (.slice mo ml mc) (.int .i64 m.wal) (.int .i64 m.wal)
      have d2 : ∃ Z2, Dx w.heap.size Z2 W2 w.heap.size ⟨16777216, (x0.map (fun b => fL b b.length)).toList, 0, false⟩ ∧ ∀ ad, mo = some ad → 0 < ml → ad.block ∈ Z2 := by
        by_cases hml : 0 < ml
        · obtain ⟨gb, go, rfl, hcm⟩ := lm.headI hml
          have hl := lm.len_eq
          have hlt := World.block_lt_of_cell? _ _ (hcm 0 _ (List.getElem?_eq_getElem (by omega))).1
          exact ⟨[gb], d0.more b2 (hnew _ rfl) hlt, fun ad h _ => by cases h; simp⟩
        · exact ⟨[], d0.later b2, fun _ _ h => absurd h hml⟩
      obtain ⟨Z2, d2, hz2⟩ := d2
      have hVs : V.heap.size = W2.heap.size + 2 := by rw [hV]; simp
      have d3 := d2.mores bV [W2.heap.size, W2.heap.size + 1] (by intro g hg; simp at hg; omega)
      have lV := lm.later RI.stable bV
      have hzV : ∀ ad, mo = some ad → 0 < ml → ad.block < w.heap.size ∨ ad.block ∈ [W2.heap.size, W2.heap.size + 1] ++ Z2 := fun ad h h0 => .inr (List.mem_append_right _ (hz2 ad h h0))
      have hcalm := wrote_calm 16777216 _ _ (chain_st x0) (recL m.enc) (by have := rec_len m h12; cases x0 with | none => simp [len0]; omega | some b => have := hx49 b rfl; simp [len0]; omega) (by have := rec_len m h12; omega)
      have hrec := rec_len m h12
      have hread := readL_rec m hR
      have hbad : ¬ Man.Right ⟨m.ts, m.wal, m.wal⟩ := fun h => by have := h.2.2.1; simp at this
      have bwV := below_trans b2 bV
      have bW : Below w.heap.size w V := bwr.trans (bwV.mono bwr.size)
      have x0' := mx.c0
      have x1' := mx.c1
      have x2' := mx.c2
      have y0' := my.c0
      have y1' := my.c1
      have y2' := my.c2
      clear hVs hmade d2 d0 hz2 b2
      go_wp2_with fail
      rw [← hV]
      clear hV
      with_reducible refine (write_x d3 (by cases x0 <;> simp) mo ml mc m.ts m.wal m.nxt lV mw1 mn1 hR _ 0 hcalm).mono ?_
      rintro e W4 ⟨rfl, d4, q4⟩
      have l4 := lV.kp q4 hzV
      have u0 := q4.cell x0' (.inr (by simp))
      have u1 := q4.cell x1' (.inr (by simp))
      have u2 := q4.cell x2' (.inr (by simp))
      have v0 := q4.cell y0' (.inr (by simp))
      have v1 := q4.cell y1' (.inr (by simp))
      have v2 := q4.cell y2' (.inr (by simp))
      have b4 := bW.trans (q4.below d3.size)
      clear x0' x1' x2' y0' y1' y2' d3 hcalm hzV lV mx my
      go_wp2_with fail
      with_reducible refine (write_no (.pointer (some ⟨w.heap.size, 0, none⟩)) mo ml mc m.ts m.wal m.wal W4 l4 mw1 mw1 hbad).mono ?_
      rintro e W5 ⟨rfl, b5⟩
      have d5 := d4.later b5
      have l5 := l4.later RI.stable b5
      have u0 := cell_later b5 u0
      have u1 := cell_later b5 u1
      have u2 := cell_later b5 u2
      clear v0 v1 v2 d4 l4
      go_wp2_with fail
      with_reducible refine (readm_some d5 (by simp) (get_l1 _ _) (by rw [fL_data]; omega)).mono ?_
      rintro e W6 ⟨hcase, b6⟩
      rcases hcase with ⟨hn, _⟩ | ⟨m', v, hm', _, rfl, hv⟩
      · exact absurd (hn.symm.trans hread) (by simp)
      obtain rfl := Option.some.inj (hread.symm.trans hm')
      obtain ⟨no, nl, nc, rfl, ln, _⟩ := hv
      have d6 := d5.later b6
      have l6 := l5.later RI.stable b6
      have u0 := cell_later b6 u0
      have u1 := cell_later b6 u1
      have u2 := cell_later b6 u2
      obtain ⟨U, hU, mU, bU⟩ : ∃ U, U = W6.alloc (.cells #[.slice no nl nc, .int .i64 m.wal, .int .i64 m.nxt] 24) ∧ Mb U W6.heap.size (.slice no nl nc) (.int .i64 m.wal) (.int .i64 m.nxt) ∧ Below W6.heap.size W6 U := ⟨_, rfl, Mb.new _ _ _ _, (Below.refl _ _).alloc (Nat.le_refl _) _⟩
      have u0 := fun o => cell_later ((Below.refl W6.heap.size W6).alloc (Nat.le_refl _) o) u0
      have u1 := fun o => cell_later ((Below.refl W6.heap.size W6).alloc (Nat.le_refl _) o) u1
      have u2 := fun o => cell_later ((Below.refl W6.heap.size W6).alloc (Nat.le_refl _) o) u2
      have dU := d6.later bU
      have hsame := same_man no mo nl nc ml mc m.ts m.ts m.wal m.nxt m.wal m.nxt U (ln.later RI.stable bU) (l6.later RI.stable bU) (by have := ln.len_eq; omega) (by have := l6.len_eq; omega)
      rw [show (decide (m.ts = m.ts) && decide (m.wal = m.wal) && decide (m.nxt = m.nxt)) = true by simp] at hsame
      have bU' : Below w.heap.size w U := b4.trans ((below_trans b5 (below_trans b6 bU)).mono b4.size)
      clear hm' ln l6 l5 d5 d6 mU hread b4 b5 b6 bU
      go_wp2_with fail
      rw [← hU]
      clear hU
      with_reducible refine hsame.mono ?_
      rintro e U1 ⟨rfl, b7⟩
      have d7 := dU.later b7
      clear u0 u1 u2 dU hsame
      go_wp2_with fail
      with_reducible refine (names_x d7 1 rfl (by omega)).mono ?_
      rintro e U2 ⟨⟨ao2, cap2, rfl⟩, b8⟩
      have hch : Ch w.heap.size U2 w.heap.size := ⟨some (recL m.enc), fun b h => by cases h; exact hrec, (d7.later b8).less (by simp)⟩
      have bb : Below w.heap.size w U2 := bU'.trans ((below_trans b7 b8).mono bU'.size)
      clear d7 b7 b8 bU'
      go_wp2
      go_round
      case rel => exact ⟨k + 1, by omega, by omega, by go_num, hch, bb⟩
      case measure => simp [intOf]; omega
    · by_cases hg1 : k < la
      · have hg2 : ¬ k < 8 := fun h => hgo ⟨hg1, h⟩
        clear hgo
        go_wp2_with fail
        with_reducible refine (known_any wr).mono ?_
        rintro e W9 ⟨rfl, b9⟩
        go_wp2
        go_ret
        exact ⟨rfl, bwr.trans (b9.mono bwr.size)⟩
      · clear hgo
        go_wp2_with fail
        with_reducible refine (known_any wr).mono ?_
        rintro e W9 ⟨rfl, b9⟩
        go_wp2
        go_ret
        exact ⟨rfl, bwr.trans (b9.mono bwr.size)⟩
end Go.Proofs.YtgleblfkcdkaeaaDoor
