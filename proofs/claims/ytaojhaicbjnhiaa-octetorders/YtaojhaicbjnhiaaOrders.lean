/- The walk of OctetOrders: numbers stand in order as their bytes do; what begins with a text stands ahead of its Next. -/
import Derived.Test.YtaojhaicbjnhiaaMath2
import Derived.Test.YtaojhaicbjnhiaaBack
namespace Go.Proofs.Ytaojhaicbjnhiaa
open Go.RowKit

theorem less_at (ao bo : Option Addr) (la ca lb cb : Nat) (xs ys : List Int) (r : Bool) (w : World) (ha : Tx w ao la ca xs) (hb : Tx w bo lb cb ys) (sa : la ≤ 1000) (sb : lb ≤ 1000) (hr : lessB xs ys = r) :
    Calls Try.prog 15 #[.slice ao la ca, .slice bo lb cb] w fun e w' => e = .returned (.bool r) ∧ Below w.heap.size w w' := by
  subst hr; exact less_any ao bo la ca lb cb xs ys w ha hb (by omega) (by omega)

theorem shared_at (ao bo : Option Addr) (la ca lb cb : Nat) (xs ys : List Int) (r : Nat) (w : World) (ha : Tx w ao la ca xs) (hb : Tx w bo lb cb ys) (sa : la ≤ 1000) (sb : lb ≤ 1000) (hr : shared xs ys = r) :
    Calls Try.prog 17 #[.slice ao la ca, .slice bo lb cb] w fun e w' => e = .returned (.int .i64 r) ∧ Below w.heap.size w w' := by
  subst hr; exact shared_any ao bo la ca lb cb xs ys w ha hb (by omega) (by omega)

theorem next_at (ao : Option Addr) (la ca : Nat) (xs : List Int) (r : Bool) (w : World) (ha : Tx w ao la ca xs) (sa : la ≤ 1000) (hr : (tip xs != 0) = r) :
    Calls Try.prog 16 #[.slice ao la ca] w fun e w' => ∃ bo lb cb, e = .returned (.tuple #[.slice bo lb cb, .bool r]) ∧ lb ≤ la ∧ Tx w' bo lb cb (nextL xs) ∧ Below w.heap.size w w' := by
  subst hr
  refine (next_any ao la ca xs w ha sa).mono ?_
  rintro e w' ⟨bo, lb, cb, he, ht, hb⟩
  exact ⟨bo, lb, cb, he, by have := ht.len_eq; rw [length_nextL] at this; have := tip_le xs; have := ha.len_eq; omega, ht, hb⟩

set_option maxHeartbeats 1600000 in
theorem orders_walk (m n : Int) (ao : Option Addr) (la ca : Nat) (xs : List Int) (bo : Option Addr) (lb cb : Nat) (ys : List Int) (m1 : 0 ≤ m) (m2 : m < 18446744073709551616) (n1 : 0 ≤ n) (n2 : n < 18446744073709551616) (w : World) (ha : Tx w ao la ca xs) (hm : Tx w bo lb cb ys) :
    Calls Try.prog 5 #[.int .u64 m, .int .u64 n, .slice ao la ca, .slice bo lb cb] w fun e w' => e = .returned (.bool true) ∧ Below w.heap.size w w' := by
  have hmn := lessB_u64 m n m1 m2 n1 n2
  have hmn' : Hid (lessB (low 8 m) (low 8 n) = decide (m < n)) := hmn
  clear hmn
  obtain ⟨r, hr⟩ : ∃ r, Hid ((tip (xs.take 30) != 0) = r) := ⟨_, rfl⟩
  go_enter Try.func5, Try.ntmps5
  go_wp2_with (first
    | (go_at_call 14; with_reducible refine (put_nil m 8 8 w rfl m1 m2 (by omega)).mono ?_; rintro e w1 ⟨o1, c1, rfl, t1, b1⟩)
    | (go_at_call 14; with_reducible refine (put_nil n 8 8 w1 rfl n1 n2 (by omega)).mono ?_; rintro e w2 ⟨o2, c2, rfl, t2, b2⟩; have B2 := b1.trans (b2.mono b1.size); have t1' := t1.later b2)
    | (go_at_call 15; with_reducible refine (less_at o1 o2 8 c1 8 c2 _ _ (decide (m < n)) w2 t1' t2 (by omega) (by omega) hmn'.out).mono ?_; rintro e w3 ⟨rfl, b3⟩; have B3 := B2.trans (b3.mono B2.size))
    | (go_at_call 10; with_reducible refine (cut_at ao la ca 30 30 xs w3 rfl (ha.later B3) (by omega)).mono ?_; rintro e w3' ⟨l3, rfl, hl3, tA, rfl⟩)
    | (with_reducible show wpList _ _ _ (⟨some 29, _, _, _, _, _⟩ :: _) _ _; refine wpList_append_bytes _ rfl _ _ rfl w3.heap.size (.slice (some ⟨w3.heap.size, 0, none⟩) 0 0) 0 [] rfl (own_empty w3) (by simp) ao l3 ca (xs.take 30) rfl (tA.alloc _) (by omega) (by simp) ?_; intro a4 l4 c4 w4 hl4 hown4 htx4 b4; rw [List.nil_append] at hown4; have B4 := below_alloc B3 B3.size b4; have hl4' : l4 ≤ 30 := (by omega); clear hl4; have tA4 := tA.later (below_on b4))
    | (go_at_call 10; with_reducible refine (cut_at bo lb cb 20 20 ys w4 rfl (hm.later B4) (by omega)).mono ?_; rintro e w4' ⟨l5, rfl, hl5, tM, rfl⟩)
    | (with_reducible show wpList _ _ _ (⟨some 32, _, _, _, _, _⟩ :: _) _ _; refine wpList_append_bytes _ rfl _ _ rfl w3.heap.size (.slice a4 l4 c4) l4 (xs.take 30) rfl hown4 tA.rng bo l5 cb (ys.take 20) rfl tM (by omega) (below_on b4).size ?_; intro a6 l6 c6 w6 hl6 hown6 tB6 b6; have hl6' : l6 ≤ 50 := (by omega); clear hl6; have B6 := B4.trans (b6.mono B3.size); have tA6 := tA.later ((below_on b4).trans b6))
    | (go_at_call 16; with_reducible refine (next_at ao l3 ca (xs.take 30) r w6 tA6 (by omega) hr.out).mono ?_; rintro e w7 ⟨o7, l7, c7, rfl, hl7, tZ7, b7⟩; have B7 := B6.trans (b7.mono B6.size); have tA7 := tA6.later b7; have tB7 := tB6.later b7)
    | (go_at_call 17; with_reducible refine (shared_at ao a6 l3 ca l6 c6 _ _ l3 w7 tA7 tB7 (by omega) (by omega) (by rw [shared_front]; exact tA7.len_eq)).mono ?_; rintro e w8 ⟨rfl, b8⟩; have B8 := B7.trans (b8.mono B7.size); have tA8 := tA7.later b8; have tB8 := tB7.later b8; have tZ8 := tZ7.later b8))
  · have hrt : r = true := by assumption
    have htip : tip (xs.take 30) ≠ 0 := by
      have := hr.out
      rw [hrt] at this
      simpa using this
    have z1 : Hid (lessB (xs.take 30 ++ ys.take 20) (nextL (xs.take 30)) = true) := lessB_next _ _ htip
    have z2 : Hid (lessB (xs.take 30) (nextL (xs.take 30)) = true) := lessB_next0 _ htip
    have z3 : Hid (lessB (xs.take 30 ++ ys.take 20) (xs.take 30) = false) := lessB_back _ _
    go_wp2_with (first | (go_at_call 15; with_reducible refine (less_at a6 o7 l6 c6 l7 c7 _ _ true w8 tB8 tZ8 (by omega) (by omega) z1.out).mono ?_; rintro e w9 ⟨rfl, b9⟩; have B9 := B8.trans (b9.mono B8.size); have tA9 := tA8.later b9; have tB9 := tB8.later b9; have tZ9 := tZ8.later b9) | (go_at_call 15; with_reducible refine (less_at ao o7 l3 ca l7 c7 _ _ true w9 tA9 tZ9 (by omega) (by omega) z2.out).mono ?_; rintro e w10 ⟨rfl, b10⟩; have B10 := B9.trans (b10.mono B9.size); have tA10 := tA9.later b10; have tB10 := tB9.later b10) | (go_at_call 15; with_reducible refine (less_at a6 ao l6 c6 l3 ca _ _ false w10 tB10 tA10 (by omega) (by omega) z3.out).mono ?_; rintro e w11 ⟨rfl, b11⟩; have B11 := B10.trans (b11.mono B10.size)) | (go_at_call 9; with_reducible refine (known_any w11).mono ?_; rintro e w12 ⟨rfl, b12⟩))
    go_ret
    exact ⟨rfl, B11.trans (b12.mono B11.size)⟩
  · have z3 : Hid (lessB (xs.take 30 ++ ys.take 20) (xs.take 30) = false) := lessB_back _ _
    go_wp2_with (first | (go_at_call 15; with_reducible refine (less_at a6 ao l6 c6 l3 ca _ _ false w8 tB8 tA8 (by omega) (by omega) z3.out).mono ?_; rintro e w11 ⟨rfl, b11⟩; have B11 := B8.trans (b11.mono B8.size)) | (go_at_call 9; with_reducible refine (known_any w11).mono ?_; rintro e w12 ⟨rfl, b12⟩))
    go_ret
    exact ⟨rfl, B11.trans (b12.mono B11.size)⟩

end Go.Proofs.Ytaojhaicbjnhiaa
