/- The first of all entries, and its source's next one. -/
import Derived.Test.YtjbppedphadenaaGAdd
namespace Go.Proofs.Ytjbppedphadenaa
set_option maxRecDepth 100000
open Go.RowKit Go.Sort

/-- The top has turned. -/
theorem Hs.turn {w0 w w' : World} {S : List Nat} {hb : Nat} {v : Value} {t : Nd} {tl : List Nd} (h : Hs w0 w S hb v (t :: tl)) (t' : Nd) (eb : t'.b = t.b) (er : t'.r = t.r) (ho : Off [t.r, t.b] w w') (hi : NdIn w' t') (hk : NdOk w0 t') : Hs w0 w' S hb v (t' :: tl) := by
  have hcell := h.cell
  have ht := h.nodes t (by simp)
  have hS := h.ins t (by simp)
  have h1 := ht.1.head
  have h2 := ht.1.row
  have hblk : ∀ k, k < w.heap.size → k ≠ t.r → k ≠ t.b → w'.heap[k]? = w.heap[k]? := fun k hk h1 h2 => ho.block k hk (by simp [h1, h2])
  have nb := h.nb
  have nr := h.nr
  rw [List.map_cons, List.nodup_cons] at nb nr
  refine ⟨h.below.trans (ho.below (fun k hk => ?_) h.below.size), ?_, ?_, fun n hn => ?_, ?_, ?_, h.inb, h.inv, fun n hn => ?_, h.low, fun k hk => Nat.lt_of_lt_of_le (h.top k hk) ho.size⟩
  · simp at hk
    rcases hk with rfl | rfl
    · exact h.low _ hS.2
    · exact h.low _ hS.1
  · rw [hblk hb (heap_lt hcell) (fun e => by rw [e, h2] at hcell; simp at hcell) (fun e => by rw [e, h1] at hcell; simp at hcell)]; exact hcell
  · have := rows_offB h.row ho (fun k hk hT' => by
      rcases h.row.2 with ⟨e, _⟩ | ⟨g, c, cur, e, _, hg, _⟩
      · subst e; simp [own, Value.ownBlock] at hk
      · subst e; simp [own, Value.ownBlock] at hk; subst hk
        simp at hT'
        rcases hT' with rfl | rfl
        · rw [h2] at hg; simp at hg
        · rw [h1] at hg; simp at hg)
    have e1 : ptr t' = ptr t := by unfold ptr; rw [eb]
    simpa [e1] using this
  · rcases List.mem_cons.1 hn with rfl | hn
    · exact ⟨hi, hk⟩
    · have hm := h.nodes n (by simp [hn])
      have g1 := hm.1.head
      have g2 := hm.1.row
      refine ⟨⟨?_, ?_⟩, hm.2⟩
      · rw [hblk _ (heap_lt g1) (fun e => by rw [e, h2] at g1; simp at g1) (fun e => nb.1 (List.mem_map.2 ⟨n, hn, e⟩))]; exact g1
      · rw [hblk _ (heap_lt g2) (fun e => nr.1 (List.mem_map.2 ⟨n, hn, e⟩)) (fun e => by rw [e, h1] at g2; simp at g2)]; exact g2
  · rw [List.map_cons, List.nodup_cons, eb]; exact nb
  · rw [List.map_cons, List.nodup_cons, er]; exact nr
  · rcases List.mem_cons.1 hn with rfl | hn
    · rw [eb, er]; exact hS
    · exact h.ins n (by simp [hn])
theorem head_set3 {w : World} {b : Nat} {k v k' v' : Value} {g g' : Bool} {a f : Value} (h : w.heap[b]? = some (.cells #[k, v, .bool g, a, f] 56 (0, 0))) :
    (((w.setCell ⟨b, 0, none⟩ k').setCell ⟨b, 1, none⟩ v').setCell ⟨b, 2, none⟩ (.bool g')).heap[b]? = some (.cells #[k', v', .bool g', a, f] 56 (0, 0)) := by
  have e1 := heap_setCell_same w b 0 _ 56 k' h
  have e2 := heap_setCell_same _ b 1 _ 56 v' e1
  have e3 := heap_setCell_same _ b 2 _ 56 (.bool g') e2
  simpa using e3

theorem at_alloc {V : World} {b : Nat} {cs : Array Value} {T : Nat} (h : V.heap[b]? = some (.cells cs T (0, 0))) (X : Obj) (j : Nat) (u : Value) (hj : cs[j]? = some u) : (V.alloc X).cell? ⟨b, j, none⟩ = some u ∧ (V.alloc X).frozen? ⟨b, j, none⟩ = false := by
  have e : (V.alloc X).heap[b]? = some (.cells cs T (0, 0)) := by rw [Below.heap_alloc _ _ _ (heap_lt h)]; exact h
  exact ⟨by rw [cell_of_row _ b j cs T (0, 0) e, hj], frozen_of_row _ b j cs T e⟩
set_option maxHeartbeats 8000000 in
theorem take_any {w0 w : World} {S : List Nat} {hb : Nat} {v : Value} {t : Nd} {tl : List Nd} (h : Hs w0 w S hb v (t :: tl)) (hh : HeapOn (t :: tl) (t :: tl).length) (sm : tl.length ≤ 100000) (sl : t.ll ≤ 1000000) :
    Calls Try.prog 20 #[.pointer (some ⟨hb, 0, none⟩)] w fun x w' => ∃ kv vv, x = .returned (.agg #[kv, vv, .bool t.e.g]) ∧ t.kv = kv ∧ t.vv = vv ∧ ∃ v' hs', Hs w0 w' S hb v' hs' ∧ HeapOn hs' hs'.length ∧ (nextsP t tl hs' ∧ ∀ n ∈ hs', n ∈ tl ∨ n.ll ≤ t.ll) ∧ Off S w w' := by
  have b0 : Below w.heap.size w (w.alloc (.cells #[.slice none 0 0, .slice none 0 0, .bool false] 26)) := (Below.refl _ _).alloc (Nat.le_refl _) _
  have bx0 := Boxf.new' w (.slice none 0 0) (.slice none 0 0) false
  have H0 := h.later b0
  have hlt : (t :: tl).length = tl.length + 1 := by simp
  have hwS : ∀ k, w.heap.size ≤ k → k ∉ S := fun k hk hS => by have := h.top k hS; omega
  obtain ⟨ko, kl, kc, vo, vl, vc, X⟩ := H0.node (n := t) (by simp)
  obtain ⟨c0, _⟩ := H0.cell0
  have hL := (h.nodes t (by simp)).2.lx
  have hrow := (H0.nodes t (by simp)).1.row
  obtain ⟨g, cap, rfl, hle, htop, hc, _⟩ := H0.at_ (by simp)
  unfold maxLen at htop
  have cg := hc 0 t rfl
  unfold ptr at cg
  have x0 := X.c0
  have x1 := X.c1
  have x2 := X.c2
  have x4 := X.c4
  unfold fnNext at x4
  have ekv := X.kv
  have evv := X.vv
  have kI : (0 : Int) < ((t :: tl).length : Int) := by rw [hlt]; omega
  obtain ⟨G, hG⟩ : ∃ G, Hid (t.e.g = G) := ⟨_, rfl⟩
  rw [hG.out] at x2 ⊢
  rw [ekv, evv]
  have bB : Below w.heap.size w ((w.alloc (.cells #[.slice none 0 0, .slice none 0 0, .bool false] 26)).alloc (.cells #[.slice ko kl kc, .slice vo vl vc, .bool G] 26)) := b0.alloc b0.size _
  have bC : Below (w.alloc (.cells #[.slice none 0 0, .slice none 0 0, .bool false] 26)).heap.size (w.alloc (.cells #[.slice none 0 0, .slice none 0 0, .bool false] 26)) ((w.alloc (.cells #[.slice none 0 0, .slice none 0 0, .bool false] 26)).alloc (.cells #[.slice ko kl kc, .slice vo vl vc, .bool G] 26)) := (Below.refl _ _).alloc (Nat.le_refl _) _
  have x4' := cell_later bC x4
  have H1 := H0.later bC
  have hrow1 := (H1.nodes t (by simp)).1.row
  have bxT := Boxf.new' (w.alloc (.cells #[.slice none 0 0, .slice none 0 0, .bool false] 26)) (.slice ko kl kc) (.slice vo vl vc) G
  rw [show (w.alloc (.cells #[.slice none 0 0, .slice none 0 0, .bool false] 26)).heap.size = w.heap.size + 1 by simp] at bxT
  have bxR := bx0.off (S := []) (.of_below bC) (by simp)
  have hV1 : ((w.alloc (.cells #[.slice none 0 0, .slice none 0 0, .bool false] 26)).alloc (.cells #[.slice ko kl kc, .slice vo vl vc, .bool G] 26)).heap.size = w.heap.size + 2 := by simp
  have hw0 := h.below.size
  clear hc X
  go_enter Try.func20, Try.ntmps20
  go_wp2_with fail
  generalize (w.alloc (.cells #[.slice none 0 0, .slice none 0 0, .bool false] 26)).alloc (.cells #[.slice ko kl kc, .slice vo vl vc, .bool G] 26) = V1 at H1 hrow1 bxT bxR bB hV1 ⊢
  clear x4 x4' x0 x1 x2 c0 cg bC H0 b0 bx0 hrow h
  have hlen := hL.len_eq
  have hlow := H1.low
  have hrS := (H1.ins t (by simp)).2
  have hbS := (H1.ins t (by simp)).1
  have hB1 := H1.below.size
  cases hr : t.rest with
  | nil =>
    rw [hr] at hlen
    have hll : t.ll = 0 := by simpa using hlen.symm
    rw [hll] at hrow1
    have hnx := next_none V1 t.r t.lo t.lc hrow1
    with_reducible refine hnx.mono ?_
    clear hnx hrow1
    rintro x V2 ⟨rfl, bV⟩
    have bE := bV.alloc bV.size (.cells #[.slice none 0 0, .slice none 0 0, .bool false] 26)
    have H2 := H1.later bE
    have hpp := hp_pop H2 hh sm
    have bxT2 := bxT.off (S := []) (.of_below bE) (by simp)
    have bxR2 := bxR.off (S := []) (.of_below bE) (by simp)
    have bW2 := bB.trans (bE.mono (by omega))
    go_wp2_with fail
    generalize V2.alloc (.cells #[.slice none 0 0, .slice none 0 0, .bool false] 26) = V3 at H2 hpp bxT2 bxR2 bW2 ⊢
    with_reducible refine hpp.mono ?_
    clear hpp bxT bxR
    rintro x V4 ⟨rfl, v4, hs4, H4, hH4, P4, O4⟩
    have bxT4 := bxT2.off O4 (hwS _ (by omega))
    have bxR4 := bxR2.off O4 (hwS _ (by omega))
    have q := box_set V4 w.heap.size (.slice ko kl kc) (.slice vo vl vc) _ _ bxR4 (.bool G)
    have O5 := off_set3 V4 w.heap.size (.slice ko kl kc) (.slice vo vl vc) (.bool G)
    have H5 := H4.off O5 (by intro k hk; simp at hk; subst hk; exact hwS _ (Nat.le_refl _)) (by intro k hk; simp at hk; subst hk; exact hw0)
    have hfin : ∀ F, Hs w0 F S hb v4 hs4 → Off [w.heap.size] V4 F → ∃ kv vv, Ending.returned (.agg #[.slice ko kl kc, .slice vo vl vc, .bool G]) = .returned (.agg #[kv, vv, .bool G]) ∧ Value.slice ko kl kc = kv ∧ Value.slice vo vl vc = vv ∧ ∃ v' hs', Hs w0 F S hb v' hs' ∧ HeapOn hs' hs'.length ∧ (nextsP t tl hs' ∧ ∀ n ∈ hs', n ∈ tl ∨ n.ll ≤ t.ll) ∧ Off S w F := fun F hF oF =>
      ⟨_, _, rfl, rfl, rfl, v4, hs4, hF, hH4, ⟨.inl ⟨hr, P4⟩, fun n hn => .inl (P4.mem_iff.1 hn)⟩, (((Off.of_below bW2).trans O4).trans2 oF (fun k hk => .inr (by simp at hk; omega)))⟩
    obtain ⟨t0, t1, t2, _⟩ := bxT4
    have z0 := bxR4.z 0
    have z1 := bxR4.z 1
    have z2 := bxR4.z 2
    obtain ⟨r0, r1, r2, _⟩ := bxR4
    clear hH4 P4 hL hh hr hlen hlow
    go_wp2
    generalize ((V4.setCell ⟨w.heap.size, 0, none⟩ (.slice ko kl kc)).setCell ⟨w.heap.size, 1, none⟩ (.slice vo vl vc)).setCell ⟨w.heap.size, 2, none⟩ (.bool G) = F at q O5 H5 ⊢
    obtain ⟨q0, q1, q2⟩ := q
    exact bodyPost_ret (v := .agg #[.slice ko kl kc, .slice vo vl vc, .bool G]) (by simp [results, Try.results20, go_sem, q0, q1, q2]) rfl (hfin F H5 O5)
  | cons e' rest' =>
    rw [hr] at hL hlen
    have hnx := next_some w0 V1 t.r t.lo t.ll t.lc e' rest' H1.below hrow1 hL sl
    with_reducible refine hnx.mono ?_
    clear hnx
    rintro x V2 ⟨kv, vv, lo', ll', lc', rfl, hr', L', hll', bk, bv, O⟩
    obtain ⟨jo, jl, jc, rfl, tk, _⟩ := bk
    obtain ⟨uo, ul, uc, rfl, tv, _⟩ := bv
    obtain ⟨G', hG'⟩ : ∃ G', e'.g = G' := ⟨_, rfl⟩
    rw [hG']
    have hhd := (H1.nodes t (by simp)).1.head
    have hne : t.b ≠ t.r := fun e => by rw [e, hrow1] at hhd; simp at hhd
    have hbl := heap_lt hhd
    have hsr := (H1.nodes t (by simp)).2.sr
    rw [hr] at hsr
    have hhd2 : V2.heap[t.b]? = some (.cells #[t.kv, t.vv, .bool t.e.g, .int .i64 (t.age : Int), fnNext t.r] 56 (0, 0)) := by rw [O.block t.b hbl (by simpa using hne)]; exact hhd
    have e1 := heap_setCell_same V2 t.b 0 _ 56 (.slice jo jl jc) hhd2
    have e2 := heap_setCell_same _ t.b 1 _ 56 (.slice uo ul uc) e1
    obtain ⟨y0, yz0⟩ := at_alloc hhd2 (.cells #[.slice jo jl jc, .slice uo ul uc, .bool G'] 26) 0 t.kv rfl
    obtain ⟨y1, yz1⟩ := at_alloc e1 (.cells #[.slice jo jl jc, .slice uo ul uc, .bool G'] 26) 1 t.vv (by simp)
    obtain ⟨y2, yz2⟩ := at_alloc e2 (.cells #[.slice jo jl jc, .slice uo ul uc, .bool G'] 26) 2 (.bool t.e.g) (by simp)
    have hV2 := heap_lt hhd2
    have O4 : Off [t.r, t.b] V1 ((((V2.setCell ⟨t.b, 0, none⟩ (.slice jo jl jc)).setCell ⟨t.b, 1, none⟩ (.slice uo ul uc)).setCell ⟨t.b, 2, none⟩ (.bool G')).alloc (.cells #[.slice jo jl jc, .slice uo ul uc, .bool G'] 26)) := ((O.mono (by simp)).trans ((off_set3 V2 t.b _ _ _).mono (by simp))).alloc _
    have hi4 : NdIn ((((V2.setCell ⟨t.b, 0, none⟩ (.slice jo jl jc)).setCell ⟨t.b, 1, none⟩ (.slice uo ul uc)).setCell ⟨t.b, 2, none⟩ (.bool G')).alloc (.cells #[.slice jo jl jc, .slice uo ul uc, .bool G'] 26)) ⟨t.b, t.r, .slice jo jl jc, .slice uo ul uc, e', t.age, lo', ll', lc', rest'⟩ :=
      ⟨by rw [Below.heap_alloc _ _ _ (by simp; exact hV2), hG']; exact head_set3 hhd2, by rw [Below.heap_alloc _ _ _ (by simp; exact heap_lt hr'), (off_set3 V2 t.b _ _ _).block t.r (heap_lt hr') (by simpa using fun e => hne e.symm)]; exact hr'⟩
    have H4 := H1.turn ⟨t.b, t.r, .slice jo jl jc, .slice uo ul uc, e', t.age, lo', ll', lc', rest'⟩ rfl rfl O4 hi4 ⟨⟨jo, jl, jc, rfl, tk, fun _ _ _ => by simp⟩, ⟨uo, ul, uc, rfl, tv, fun _ _ _ => by simp⟩, L', (hsr e' (by simp)).1, (hsr e' (by simp)).2, fun x hx => hsr x (by simp [hx])⟩
    have hfx := hp_fix H4 (by simp) (hh.turn) (by simp; omega)
    have O4S : Off S V1 ((((V2.setCell ⟨t.b, 0, none⟩ (.slice jo jl jc)).setCell ⟨t.b, 1, none⟩ (.slice uo ul uc)).setCell ⟨t.b, 2, none⟩ (.bool G')).alloc (.cells #[.slice jo jl jc, .slice uo ul uc, .bool G'] 26)) := O4.mono (by intro k hk; simp at hk; rcases hk with rfl | rfl <;> assumption)
    have bxT4 := bxT.off O4S (hwS _ (by omega))
    have bxR4 := bxR.off O4S (hwS _ (by omega))
    clear hi4 O4 hhd hhd2 H1 hrow1 bxT bxR hL L' hsr O e1 e2
    go_wp2_with fail
    generalize ((((V2.setCell ⟨t.b, 0, none⟩ (.slice jo jl jc)).setCell ⟨t.b, 1, none⟩ (.slice uo ul uc)).setCell ⟨t.b, 2, none⟩ (.bool G')).alloc (.cells #[.slice jo jl jc, .slice uo ul uc, .bool G'] 26)) = V4 at H4 hfx bxT4 bxR4 O4S ⊢
    clear y0 y1 y2 yz0 yz1 yz2
    with_reducible refine hfx.mono ?_
    clear hfx
    rintro x V5 ⟨rfl, hs5, H5, hH5, P5, O5⟩
    have bxT5 := bxT4.off O5 (hwS _ (by omega))
    have bxR5 := bxR4.off O5 (hwS _ (by omega))
    have q := box_set V5 w.heap.size (.slice ko kl kc) (.slice vo vl vc) _ _ bxR5 (.bool G)
    have O6 := off_set3 V5 w.heap.size (.slice ko kl kc) (.slice vo vl vc) (.bool G)
    have H6 := H5.off O6 (by intro k hk; simp at hk; subst hk; exact hwS _ (Nat.le_refl _)) (by intro k hk; simp at hk; subst hk; exact hw0)
    have hfin : ∀ F, Hs w0 F S hb (.slice (some ⟨g, 0, none⟩) (t :: tl).length cap) hs5 → Off [w.heap.size] V5 F → ∃ kv vv, Ending.returned (.agg #[.slice ko kl kc, .slice vo vl vc, .bool G]) = .returned (.agg #[kv, vv, .bool G]) ∧ Value.slice ko kl kc = kv ∧ Value.slice vo vl vc = vv ∧ ∃ v' hs', Hs w0 F S hb v' hs' ∧ HeapOn hs' hs'.length ∧ (nextsP t tl hs' ∧ ∀ n ∈ hs', n ∈ tl ∨ n.ll ≤ t.ll) ∧ Off S w F := fun F hF oF =>
      ⟨_, _, rfl, rfl, rfl, _, hs5, hF, hH5, ⟨.inr ⟨⟨t.b, t.r, .slice jo jl jc, .slice uo ul uc, e', t.age, lo', ll', lc', rest'⟩, rfl, hr, P5⟩, fun n hn => by
        rcases List.mem_cons.1 (P5.mem_iff.1 hn) with rfl | h1
        · exact .inr hll'
        · exact .inl h1⟩, ((((Off.of_below bB).trans O4S).trans O5).trans2 oF (fun k hk => .inr (by simp at hk; omega)))⟩
    obtain ⟨t0, t1, t2, _⟩ := bxT5
    have z0 := bxR5.z 0
    have z1 := bxR5.z 1
    have z2 := bxR5.z 2
    obtain ⟨r0, r1, r2, _⟩ := bxR5
    clear hH5 P5 hh hr hlen hlow bxT4 bxR4
    go_wp2
    generalize ((V5.setCell ⟨w.heap.size, 0, none⟩ (.slice ko kl kc)).setCell ⟨w.heap.size, 1, none⟩ (.slice vo vl vc)).setCell ⟨w.heap.size, 2, none⟩ (.bool G) = F at q O6 H6 ⊢
    obtain ⟨q0, q1, q2⟩ := q
    exact bodyPost_ret (v := .agg #[.slice ko kl kc, .slice vo vl vc, .bool G]) (by simp [results, Try.results20, go_sem, q0, q1, q2]) rfl (hfin F H6 O6)
end Go.Proofs.Ytjbppedphadenaa
