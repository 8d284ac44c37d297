/- The walk of octet.Next. -/
import Derived.Test.YtaojhaicbjnhiaaRow
import Derived.Test.YtaojhaicbjnhiaaWalksA
namespace Go.Proofs.Ytaojhaicbjnhiaa
open Go.RowKit

theorem ret_next {bo : Option Addr} {lb cb : Nat} {b c : Bool} (h : b = c) : Ending.returned (.tuple #[.slice bo lb cb, .bool b]) = .returned (.tuple #[.slice bo lb cb, .bool c]) := by rw [h]

theorem next_row {w : World} {g p : Nat} {xs : List Int} (h : Row w g (xs.take (p + 1) ++ (List.replicate (p + 1) 0).drop xs.length)) (hp : p < xs.length) : Row w g (xs.take p ++ [xs.getD p 0]) := by
  rw [List.drop_replicate, show p + 1 - xs.length = 0 by omega, List.replicate_zero, List.append_nil, List.take_succ_eq_append_getElem hp] at h
  simpa [List.getD, hp] using h

theorem next_cell {w : World} {g p : Nat} {xs : List Int} {x : Int} (h : Row w g (xs.take p ++ [x])) (hp : p < xs.length) : w.cell? ⟨g, p, none⟩ = some (.int .u8 x) := by
  have := h.cell p (by simp; omega)
  rw [this]
  simp [List.getD, show min p xs.length = p by omega]

theorem next_set {w : World} {g p : Nat} {xs : List Int} {x y : Int} (h : Row w g (xs.take p ++ [x])) (hp : p < xs.length) : Row (w.setCell ⟨g, p, none⟩ (.int .u8 y)) g (xs.take p ++ [y]) := by
  have := h.set p y
  rw [List.set_append_right _ _ (by simp; omega)] at this
  simpa [show min p xs.length = p by omega] using this

theorem nextL_tip (xs : List Int) (p : Nat) (h : tip xs = p + 1) : nextL xs = xs.take p ++ [xs.getD p 0 + 1] := by simp [nextL, h]

theorem next_any (ao : Option Addr) (la ca : Nat) (xs : List Int) (w : World) (ha : Tx w ao la ca xs) (sa : la ≤ 1000) :
    Calls Try.prog 16 #[.slice ao la ca] w fun e w' => ∃ bo lb cb, e = .returned (.tuple #[.slice bo lb cb, .bool (tip xs != 0)]) ∧ Tx w' bo lb cb (nextL xs) ∧ Below w.heap.size w w' := by
  have e1 := ha.len_eq
  have hrng := nextL_rng xs ha.rng
  by_cases h0 : la = 0
  · subst h0
    have hx : xs = [] := List.eq_nil_of_length_eq_zero e1
    subst hx
    go_enter Try.func16, Try.ntmps16
    go_wp2
    refine wp_loop_rounds 1 ?_
    rw [rounds_succ]
    go_wp2
    go_ret2
    exact ⟨none, 0, 0, rfl, Tx.nil w, Below.refl _ _⟩
  · obtain ⟨ab, af, rfl, hca⟩ := ha.head (by omega)
    go_enter Try.func16, Try.ntmps16
    go_wp2
    go_loop [4] (fun i => ∃ k : Nat, k ≤ la ∧ i = .int .i64 k ∧ Hid (∀ j, k ≤ j → j < la → xs.getD j 0 = 255)) (fun i => (intOf i).toNat)
    case atStart => exact ⟨la, by omega, rfl, fun j h1 h2 => (by omega)⟩
    case round =>
      obtain ⟨k, hk, rfl, hff⟩ := hrel
      by_cases hk0 : k = 0
      · have ht : Hid (tip xs = 0) := tip_eq xs 0 (by omega) (fun j hj hl => hff j (by omega) (by omega)) (.inl rfl)
        subst hk0
        go_wp2
        go_ret2
        refine ⟨none, 0, 0, ret_next (by rw [ht.out]; rfl), ?_, Below.refl _ _⟩
        have : nextL xs = [] := by simp [nextL, ht.out]
        rw [this]; exact Tx.nil w
      · obtain ⟨p, rfl⟩ : ∃ p, k = p + 1 := ⟨k - 1, by omega⟩
        have c1 := hca p (by omega)
        have r1 := ha.rngAt p
        by_cases hx : xs.getD p 0 = 255
        · rw [hx] at c1
          go_wp2
          go_round
          case rel =>
            refine ⟨p, by omega, by go_num, fun j h1 h2 => ?_⟩
            by_cases hjp : j = p
            · rw [hjp]; exact hx
            · exact hff j (by omega) h2
          case measure => simp [intOf]; try omega
        · have ht : Hid (tip xs = p + 1) := tip_eq xs (p + 1) (by omega) (fun j hj hl => hff j (by omega) (by omega)) (.inr (by simpa using hx))
          have hnl := nextL_tip xs p ht.out
          have hnl' : Hid (nextL xs = xs.take p ++ [xs.getD p 0 + 1]) := hnl
          clear hnl
          generalize hxx : xs.getD p 0 = x at c1 r1 hx hnl'
          have hx1 : x ≤ 254 := by omega
          have hx2 : (x == 255) = false := by simp [hx]
          have hp : p < xs.length := by omega
          go_wp2_with (first | (at_make; refine wpList_make_bytes w rfl _ _ rfl _ _ _ _ (p + 1) rfl rfl (by omega) (by omega) (by omega) ?_; intro w1 hrow1 hb1) | (with_reducible show wpList _ _ _ (⟨some 26, _, _, _, _, _⟩ :: _) _ _; refine wpList_copy_bytes w1 rfl _ _ rfl w.heap.size (p + 1) _ rfl hrow1 (by simp) (some ⟨ab, af, none⟩) la ca xs rfl (ha.later hb1) w.heap.size w hb1 (Nat.le_refl _) ?_; intro w2 hrow2 hb2; have hrow3 := next_row hrow2.out hp; rw [hxx] at hrow3; have c2 := next_cell hrow3 hp; have f2 := hrow3.free p; have hset := fun y => next_set (y := y) hrow3 hp))
          go_ret2
          refine ⟨some ⟨w.heap.size, 0, none⟩, p + 1, p + 1, ret_next (by rw [ht.out]; rfl), ?_, hb2.setCell (Nat.le_refl _) _⟩
          have em : (x + 1) % 256 = x + 1 := by omega
          rw [hnl'.out]
          refine Row.tx (by simpa [em] using hset (x + 1)) (p + 1) (by simp; omega) (by omega) (by rw [← hnl'.out]; exact hrng)

end Go.Proofs.Ytaojhaicbjnhiaa
