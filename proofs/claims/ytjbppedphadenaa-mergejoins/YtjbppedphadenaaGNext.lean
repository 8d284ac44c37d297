/- A source's next entry. -/
import Derived.Test.YtjbppedphadenaaGWalkC
namespace Go.Proofs.Ytjbppedphadenaa
set_option maxRecDepth 100000
open Go.RowKit Go.Sort

theorem row_cell {w : World} {r : Nat} {lo : Option Addr} {ll lc : Nat} (h : w.heap[r]? = some (.cells #[.slice lo ll lc] 42 (0, 0))) : w.cell? ⟨r, 0, none⟩ = some (.slice lo ll lc) ∧ w.frozen? ⟨r, 0, none⟩ = false :=
  ⟨by rw [cell_of_row w r 0 _ 42 (0, 0) h]; rfl, frozen_of_row w r 0 _ 42 h⟩
set_option maxHeartbeats 4000000 in
theorem next_none (w : World) (r : Nat) (lo : Option Addr) (lc : Nat) (h : w.heap[r]? = some (.cells #[.slice lo 0 lc] 42 (0, 0))) :
    Calls Try.prog 19 #[.pointer (some ⟨r, 0, none⟩)] w fun e w' => e = .returned (.tuple #[.agg #[.slice none 0 0, .slice none 0 0, .bool false], .bool false]) ∧ Below w.heap.size w w' := by
  have b0 : Below w.heap.size w (w.alloc (.cells #[.slice none 0 0, .slice none 0 0, .bool false] 26)) := (Below.refl _ _).alloc (Nat.le_refl _) _
  have bx0 := Boxf.new' w (.slice none 0 0) (.slice none 0 0) false
  have c0 := cell_later b0 (row_cell h).1
  go_enter Try.func19, Try.ntmps19
  go_wp2
  generalize w.alloc (.cells #[.slice none 0 0, .slice none 0 0, .bool false] 26) = V0 at b0 bx0 ⊢
  obtain ⟨q0, q1, q2, _⟩ := bx0
  exact bodyPost_ret (v := .tuple #[.agg #[.slice none 0 0, .slice none 0 0, .bool false], .bool false]) (by simp [results, Try.results19, go_sem, q0, q1, q2]) rfl ⟨rfl, b0⟩
/-- What is left behind the first one. -/
theorem Lx.rest {w : World} {b off len cap : Nat} {e : Ent} {es : List Ent} (h : Lx 3 RE w (some ⟨b, off, none⟩) len cap (e :: es)) : ∀ lo', (1 < cap → lo' = ⟨b, off + 3, none⟩) → Lx 3 RE w (some lo') (len - 1) (cap - 1) es := fun lo' hlo => by
  have hl := h.len_eq
  simp at hl
  have hle := h.le
  refine ⟨by omega, by omega, by have := h.top; omega, fun ha => (by cases ha), fun ad ha j x hx => ?_⟩
  have hj := (List.getElem?_eq_some_iff.1 hx).1
  have hc : 1 < cap := by omega
  rw [hlo hc] at ha
  cases ha
  obtain ⟨u, h1, h2⟩ := h.cell _ rfl (j + 1) x (by simpa using hx)
  refine ⟨u, fun i y hy => ?_, h2⟩
  have := h1 i y hy
  rw [Addr.add_lit] at this ⊢
  rw [show off + 3 + (j * 3 + i) = off + ((j + 1) * 3 + i) by omega]; exact this
set_option maxHeartbeats 4000000 in
theorem next_some (w0 w : World) (r : Nat) (lo : Option Addr) (ll lc : Nat) (e : Ent) (rest : List Ent) (hb : Below w0.heap.size w0 w) (h : w.heap[r]? = some (.cells #[.slice lo ll lc] 42 (0, 0))) (L : Lx 3 RE w0 lo ll lc (e :: rest)) (sl : ll ≤ 1000000) :
    Calls Try.prog 19 #[.pointer (some ⟨r, 0, none⟩)] w fun x w' => ∃ kv vv lo' ll' lc', x = .returned (.tuple #[.agg #[kv, vv, .bool e.g], .bool true]) ∧ w'.heap[r]? = some (.cells #[.slice lo' ll' lc'] 42 (0, 0)) ∧ Lx 3 RE w0 lo' ll' lc' rest ∧ ll' ≤ ll ∧ BytesAt w0 [] kv e.k ∧ BytesAt w0 [] vv e.v ∧ Off [r] w w' := by
  have hl := L.len_eq
  simp at hl
  have htop := L.top
  have hle := L.le
  unfold maxLen at htop
  obtain ⟨b, off, rfl, hc⟩ := L.head RE.plain (by omega) (by omega)
  obtain ⟨u, h1, kv, vv, rfl, hk, hv⟩ := hc 0 e rfl
  have c0 := cell_later hb (h1 0 kv rfl)
  have c1 := cell_later hb (h1 1 vv rfl)
  have c2 := cell_later hb (h1 2 (.bool e.g) rfl)
  rw [Nat.zero_mul, Nat.zero_add, Nat.add_zero] at c0
  rw [Nat.zero_mul, Nat.zero_add] at c1 c2
  obtain ⟨ko, kl, kc, rfl, tk, _⟩ := hk
  obtain ⟨vo, vl, vc, rfl, tv, _⟩ := hv
  have hR := L.rest
  obtain ⟨G, hG⟩ : ∃ G, e.g = G := ⟨_, rfl⟩
  rw [hG] at c2 ⊢
  have b0 : Below w.heap.size w (w.alloc (.cells #[.slice none 0 0, .slice none 0 0, .bool false] 26)) := (Below.refl _ _).alloc (Nat.le_refl _) _
  have hr0 : (w.alloc (.cells #[.slice none 0 0, .slice none 0 0, .bool false] 26)).heap[r]? = some (.cells #[.slice (some ⟨b, off, none⟩) ll lc] 42 (0, 0)) := by rw [b0.block r (heap_lt h)]; exact h
  obtain ⟨rc0, rz0⟩ := row_cell hr0
  have rlt := heap_lt h
  have d0 := cell_later b0 c0
  have d1 := cell_later b0 c1
  have d2 := cell_later b0 c2
  have fin : ∀ lo', (1 < lc → lo' = ⟨b, off + 3, none⟩) → ∀ W, W = ((w.setCell ⟨r, 0, none⟩ (.slice (some lo') (ll - 1) (lc - 1))).alloc (.cells #[.slice ko kl kc, .slice vo vl vc, .bool G] 26)).alloc (.cells #[.slice ko kl kc, .slice vo vl vc, .bool G] 26) →
      Box W w.heap.size (.slice ko kl kc) (.slice vo vl vc) G ∧ ∃ kv vv lo' ll' lc', Ending.returned (.tuple #[.agg #[.slice ko kl kc, .slice vo vl vc, .bool G], .bool true]) = .returned (.tuple #[.agg #[kv, vv, .bool G], .bool true]) ∧ W.heap[r]? = some (.cells #[.slice lo' ll' lc'] 42 (0, 0)) ∧ Lx 3 RE w0 lo' ll' lc' rest ∧ ll' ≤ ll ∧ BytesAt w0 [] kv e.k ∧ BytesAt w0 [] vv e.v ∧ Off [r] w W := by
    rintro lo' hlo W rfl
    have e1 := heap_setCell_same w r 0 _ 42 (.slice (some lo') (ll - 1) (lc - 1)) h
    have hO := ((((Off.refl [r] w).setCell (p := ⟨r, 0, none⟩) (by simp) (.slice (some lo') (ll - 1) (lc - 1))).alloc (.cells #[.slice ko kl kc, .slice vo vl vc, .bool G] 26)).alloc (.cells #[.slice ko kl kc, .slice vo vl vc, .bool G] 26))
    have x1 := (Box.new (w.setCell ⟨r, 0, none⟩ (.slice (some lo') (ll - 1) (lc - 1))) (.slice ko kl kc) (.slice vo vl vc) G).later ((Below.refl _ _).alloc (Nat.le_refl _) (.cells #[.slice ko kl kc, .slice vo vl vc, .bool G] 26))
    rw [show (w.setCell ⟨r, 0, none⟩ (.slice (some lo') (ll - 1) (lc - 1))).heap.size = w.heap.size by simp] at x1
    refine ⟨x1, _, _, some lo', ll - 1, lc - 1, rfl, ?_, hR lo' hlo, by omega, ⟨ko, kl, kc, rfl, tk, fun _ _ _ => by simp⟩, ⟨vo, vl, vc, rfl, tv, fun _ _ _ => by simp⟩, hO⟩
    rw [Below.heap_alloc _ _ _ (by simp; omega), Below.heap_alloc _ _ _ (by simp; omega), e1]
    simp
  have g0 : ((ll : Int) == 0) = false := by simp; omega
  have g1 : (0 : Int) < ll := by omega
  clear h1 hc hb hR L tk tv h c0 c1 c2 b0 hr0
  go_enter Try.func19, Try.ntmps19
  go_wp2
  · rename_i hlc
    obtain ⟨q, hfin⟩ := fin ⟨b, off, none⟩ (by omega) _ rfl
    rw [show lc - 1 = 0 by omega] at q hfin
    generalize ((w.setCell ⟨r, 0, none⟩ (.slice (some ⟨b, off, none⟩) (ll - 1) 0)).alloc (.cells #[.slice ko kl kc, .slice vo vl vc, .bool G] 26)).alloc (.cells #[.slice ko kl kc, .slice vo vl vc, .bool G] 26) = F at q hfin ⊢
    obtain ⟨q0, q1, q2⟩ := q
    exact bodyPost_ret (v := .tuple #[.agg #[.slice ko kl kc, .slice vo vl vc, .bool G], .bool true]) (by simp [results, Try.results19, go_sem, q0, q1, q2]) rfl (by obtain ⟨a1, a2, a3, a4, a5, f1, f2⟩ := hfin; exact ⟨a1, a2, f1, a3, a4, a5, f2⟩)
  · obtain ⟨q, hfin⟩ := fin ⟨b, off + 3, none⟩ (fun _ => rfl) _ rfl
    generalize ((w.setCell ⟨r, 0, none⟩ (.slice (some ⟨b, off + 3, none⟩) (ll - 1) (lc - 1))).alloc (.cells #[.slice ko kl kc, .slice vo vl vc, .bool G] 26)).alloc (.cells #[.slice ko kl kc, .slice vo vl vc, .bool G] 26) = F at q hfin ⊢
    obtain ⟨q0, q1, q2⟩ := q
    exact bodyPost_ret (v := .tuple #[.agg #[.slice ko kl kc, .slice vo vl vc, .bool G], .bool true]) (by simp [results, Try.results19, go_sem, q0, q1, q2]) rfl (by obtain ⟨a1, a2, a3, a4, a5, f1, f2⟩ := hfin; exact ⟨a1, a2, f1, a3, a4, a5, f2⟩)
end Go.Proofs.Ytjbppedphadenaa
