/- The walk of the document's Next. -/
import Derived.Test.YtaojhaicbjnhiaaWalksE
namespace Go.Proofs.Ytaojhaicbjnhiaa
open Go.RowKit

theorem own_empty (w : World) : (w.alloc (.cells #[] 5)).ownsRow w.heap.size 5 1 (.slice (some ⟨w.heap.size, 0, none⟩) 0 0) 0 (([] : List Int).map (Value.int .u8)) :=
  World.ownsRow_made w #[] 0 (Nat.le_refl _) (by unfold maxLen; omega) rfl

theorem Tx.alloc {w : World} {ao : Option Addr} {len cap : Nat} {xs : List Int} (h : Tx w ao len cap xs) (o : Obj) : Tx (w.alloc o) ao len cap xs := h.later ((Below.refl _ _).alloc (Nat.le_refl _) o)

theorem own_head {w : World} {base n cap : Nat} {ao : Option Addr} {xs : List Value} (h : w.ownsRow base 5 1 (.slice ao n cap) n xs) (hn : 0 < n) : ∃ g, ao = some ⟨g, 0, none⟩ ∧ base ≤ g := by
  obtain ⟨_, ⟨h', h0⟩ | ⟨g, c, cur, h', hb, _⟩⟩ := h
  · omega
  · simp only [Value.slice.injEq] at h'
    exact ⟨g, h'.1, hb⟩

theorem own_cell {w : World} {base g n cap p : Nat} {xs : List Int} {x : Int} (h : w.ownsRow base 5 1 (.slice (some ⟨g, 0, none⟩) n cap) n ((xs.take p ++ [x]).map (Value.int .u8))) (hp : p < xs.length) : w.cell? ⟨g, p, none⟩ = some (.int .u8 x) := by
  have hl := h.1
  rw [h.cellAt p (by simp at hl ⊢; omega)]
  simp [show min p xs.length = p by omega]

theorem own_set {w : World} {base g n cap p : Nat} {xs : List Int} {x y : Int} (h : w.ownsRow base 5 1 (.slice (some ⟨g, 0, none⟩) n cap) n ((xs.take p ++ [x]).map (Value.int .u8))) (hp : p < xs.length) :
    (w.setCell ⟨g, p, none⟩ (.int .u8 y)).ownsRow base 5 1 (.slice (some ⟨g, 0, none⟩) n cap) n ((xs.take p ++ [y]).map (Value.int .u8)) := by
  have := (h.stored p (.int .u8 y)).1
  have e : ((xs.take p ++ [x]).map (Value.int .u8)).set p (.int .u8 y) = (xs.take p ++ [y]).map (Value.int .u8) := by
    rw [List.map_append, List.map_append, List.set_append_right _ _ (by simp; omega)]
    simp [show min p xs.length = p by omega]
  rwa [e] at this

theorem refnext_any (ao : Option Addr) (la ca : Nat) (xs : List Int) (w : World) (ha : Tx w ao la ca xs) (sa : la ≤ 1000) :
    Calls Try.prog 21 #[.slice ao la ca] w fun e w' => ∃ bo lb cb, e = .returned (.tuple #[.slice bo lb cb, .bool (tip xs != 0)]) ∧ Tx w' bo lb cb (nextL xs) ∧ Below w.heap.size w w' := by
  have e1 := ha.len_eq
  have hrng := nextL_rng xs ha.rng
  by_cases h0 : la = 0
  · subst h0
    have hx : xs = [] := List.eq_nil_of_length_eq_zero e1
    subst hx
    go_enter Try.func21, Try.ntmps21
    go_wp2
    refine wp_loop_rounds 1 ?_
    rw [rounds_succ]
    go_wp2
    go_ret2
    exact ⟨none, 0, 0, rfl, Tx.nil w, Below.refl _ _⟩
  · obtain ⟨ab, af, rfl, hca⟩ := ha.head (by omega)
    go_enter Try.func21, Try.ntmps21
    go_wp2
    go_loop [4] (fun i => ∃ k : Nat, k ≤ la ∧ i = .int .i64 k ∧ Hid (∀ j, k ≤ j → j < la → xs.getD j 0 = 255)) (fun i => (intOf i).toNat)
    case atStart => exact ⟨la, by omega, rfl, fun j h1 h2 => (by omega)⟩
    case round =>
      obtain ⟨k, hk, rfl, hff⟩ := hrel
      by_cases hk0 : k = 0
      · have ht : Hid (tip xs = 0) := tip_eq xs 0 (by omega) (fun j hj hl => hff j (by omega) (by omega)) (.inl rfl)
        subst hk0
        go_wp2
        go_ret2
        refine ⟨none, 0, 0, ret_next (by rw [ht.out]; rfl), ?_, Below.refl _ _⟩
        have : nextL xs = [] := by simp [nextL, ht.out]
        rw [this]; exact Tx.nil w
      · obtain ⟨p, rfl⟩ : ∃ p, k = p + 1 := ⟨k - 1, by omega⟩
        have c1 := hca p (by omega)
        have r1 := ha.rngAt p
        by_cases hx : xs.getD p 0 = 255
        · rw [hx] at c1
          go_wp2
          go_round
          case rel =>
            refine ⟨p, by omega, by go_num, fun j h1 h2 => ?_⟩
            by_cases hjp : j = p
            · rw [hjp]; exact hx
            · exact hff j (by omega) h2
          case measure => simp [intOf]; try omega
        · have ht : Hid (tip xs = p + 1) := tip_eq xs (p + 1) (by omega) (fun j hj hl => hff j (by omega) (by omega)) (.inr (by simpa using hx))
          have hnl := nextL_tip xs p ht.out
          have hnl' : Hid (nextL xs = xs.take p ++ [xs.getD p 0 + 1]) := hnl
          clear hnl
          generalize hxx : xs.getD p 0 = x at c1 r1 hx hnl'
          have hx1 : x ≤ 254 := by omega
          have hx2 : (x == 255) = false := by simp [hx]
          have hp : p < xs.length := by omega
          have hpc : p + 1 ≤ ca := by have := ha.le; omega
          have hcm := ha.top
          unfold maxLen at hcm
          have htk : xs.take (p + 1) = xs.take p ++ [x] := by rw [List.take_succ_eq_append_getElem hp, ← hxx]; simp [List.getD, hp]
          have hsrc : Tx w (some ⟨ab, af, none⟩) (p + 1) ca (xs.take p ++ [x]) := by rw [← htk]; exact ha.take (p + 1) (by omega)
          clear htk
          go_wp2_with (at_builtin; refine wpList_append_bytes _ rfl _ _ rfl w.heap.size _ 0 [] rfl (own_empty w) (by simp) (some ⟨ab, af, none⟩) (p + 1) ca _ rfl (hsrc.alloc _) (by omega) (by simp) ?_; intro ao' k' cap' w1 hk' hown htx hb1; obtain ⟨g, rfl, hgB⟩ := own_head hown (by omega); have hpk : p < k' := (by omega); have c2 := own_cell hown hp; have f2 := hown.frozenAt p; have hset := fun y => own_set (y := y) hown hp; clear hk')
          go_ret2
          have hbB : Below w.heap.size w w1 := ((Below.refl w.heap.size w).alloc (Nat.le_refl _) _).trans hb1
          have em : (x + 1) % 256 = x + 1 := by omega
          have ho := hset (x + 1)
          obtain ⟨ao2, cap2, e2, htx2⟩ := Tx.own ho (by rw [← hnl'.out]; exact hrng)
          refine ⟨some ⟨g, 0, none⟩, k', cap', ret_next (by rw [ht.out]; rfl), ?_, hbB.setCell hgB _⟩
          simp only [Value.slice.injEq, true_and] at e2
          obtain ⟨rfl, rfl⟩ := e2
          rw [hnl'.out]
          simpa [em] using htx2

end Go.Proofs.Ytaojhaicbjnhiaa
