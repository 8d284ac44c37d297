/- The walks of the statements' own 'all', of Roomy and Intact. -/
import Derived.Test.YtondfbjldonogaaWalksK
import Derived.Test.YtondfbjldonogaaWalksI
namespace Go.Proofs.Ytondfbjldonogaa
open Go.RowKit

theorem set_end (A : List Int) (r : Nat) (m : Int) (q : Nat) (hq : A.length = q) : (A ++ List.replicate (r + 1) 0).set q m = (A ++ [m]) ++ List.replicate r 0 := by
  subst hq
  rw [List.set_append_right _ _ (Nat.le_refl _), Nat.sub_self, List.replicate_succ]
  simp

/-- A text with marks behind it, j of them written, the others still 0. -/
def marked (xs : List Int) (j r : Nat) (m : Int) : List Int := (xs ++ List.replicate j m) ++ List.replicate r 0

theorem marked_step (xs : List Int) (j r : Nat) (m : Int) (q : Nat) (hq : q = xs.length + j) : (marked xs j (r + 1) m).set q m = marked xs (j + 1) r m := by
  unfold marked
  rw [set_end (xs ++ List.replicate j m) r m q (by simp [hq]), List.append_assoc xs, ← List.replicate_succ']

theorem length_marked (xs : List Int) (j r : Nat) (m : Int) : (marked xs j r m).length = xs.length + j + r := by simp [marked]; omega

theorem roomy_any (ao : Option Addr) (la ca : Nat) (xs : List Int) (w : World) (ha : Tx w ao la ca xs) (sa : la ≤ 1000) :
    Calls Try.prog 18 #[.slice ao la ca, .int .u8 165] w fun e w' => ∃ g N, e = .returned (.slice (some ⟨g, 0, none⟩) N N) ∧ Hid (N = la + 80) ∧ Tx w' (some ⟨g, 0, none⟩) N N (xs ++ List.replicate 80 165) ∧ Below w.heap.size w w' := by
  have e1 := ha.len_eq
  obtain ⟨N, hN⟩ : ∃ N, Hid (N = la + 80) := ⟨_, rfl⟩
  have hN1 : N ≤ la + 80 := by have := hN.out; omega
  have hN2 : la + 80 ≤ N := by have := hN.out; omega
  go_enter Try.func18, Try.ntmps18
  go_wp2_with (first | (at_make; refine wpList_make_bytes w rfl _ _ rfl _ _ _ _ N rfl rfl (by omega) (by omega) (by omega) ?_; intro w1 hrow1 hb1) | (with_reducible show wpList _ _ _ (⟨some 13, _, _, _, _, _⟩ :: _) _ _; refine wpList_copy_bytes w1 rfl _ _ rfl w.heap.size N _ rfl hrow1 (by simp) ao la ca xs rfl (ha.later hb1) w.heap.size w hb1 (Nat.le_refl _) ?_; intro w2 hrow2 hb2))
  go_loopw [6] (fun i wr => ∃ q : Nat, la ≤ q ∧ q ≤ N ∧ i = .int .i64 q ∧ Hid (Row wr w.heap.size (marked xs (q - la) (N - q) 165)) ∧ Below w.heap.size w wr) (fun i _ => N - (intOf i).toNat)
  case atStart =>
    refine ⟨la, Nat.le_refl _, by omega, rfl, ?_, hb2⟩
    have h := hrow2.out
    rw [List.take_of_length_le (by omega), List.drop_replicate, e1] at h
    show Row _ _ _
    rw [Nat.sub_self]
    simpa [marked] using h
  case round =>
    obtain ⟨q, q1, q2, rfl, hrow, hbel⟩ := hrel
    have hr := hrow.out
    by_cases hq : q < N
    · have c := hr.cell q (by rw [length_marked]; omega)
      have f := hr.free q
      have hst := hr.set q 165
      have es := marked_step xs (q - la) (N - q - 1) 165 q (by omega)
      rw [show N - q - 1 + 1 = N - q by omega] at es
      rw [es, show q - la + 1 = q + 1 - la by omega, show N - q - 1 = N - (q + 1) by omega] at hst
      have hst' : Hid (Row (wr.setCell ⟨w.heap.size, q, none⟩ (.int .u8 165)) w.heap.size (marked xs (q + 1 - la) (N - (q + 1)) 165)) := hst
      clear hst es hr
      generalize (marked xs (q - la) (N - q) 165).getD q 0 = x at c
      go_wp2
      go_roundw
      case rel => exact ⟨q + 1, by omega, by omega, by go_num, hst', hbel.setCell (Nat.le_refl _) _⟩
      case measure => simp [intOf]; omega
    · clear hr
      go_wp2
      go_ret
      refine ⟨w.heap.size, N, rfl, hN, ?_, hbel⟩
      have h := hrow.out
      rw [show q = N by omega, Nat.sub_self, show N - la = 80 by omega] at h
      refine Row.tx (by simpa [marked] using h) N (by simp; omega) (by omega) (fun x hx => ?_)
      rcases List.mem_append.1 hx with hx | hx
      · exact ha.rng x hx
      · have := (List.mem_replicate.1 hx).2; omega

theorem getD_mark (xs : List Int) (q la n : Nat) (h1 : xs.length = la) (h2 : la ≤ q) (h3 : q < la + n) : (xs ++ List.replicate n 165).getD q 0 = 165 := by
  subst h1
  simp [List.getD, List.getElem?_append_right h2, show q - xs.length < n by omega]

theorem intact_any (g N : Nat) (ao : Option Addr) (la ca : Nat) (xs : List Int) (w : World) (hN : Hid (N = la + 80)) (hf : Tx w (some ⟨g, 0, none⟩) N N (xs ++ List.replicate 80 165)) (ha : Tx w ao la ca xs) (sa : la ≤ 1000) :
    Calls Try.prog 20 #[.slice (some ⟨g, 0, none⟩) N N, .slice ao la ca, .int .u8 165] w fun e w' => e = .returned (.bool true) ∧ Below w.heap.size w w' := by
  have e1 := ha.len_eq
  have hN1 : N ≤ la + 80 := by have := hN.out; omega
  have hN2 : la + 80 ≤ N := by have := hN.out; omega
  have hne : ((N : Int) != (la : Int) + 80) = false := by simp; omega
  obtain ⟨ab, af, ea, hcell⟩ := hf.head (by omega)
  cases ea
  have hft : Tx w (some ⟨g, 0, none⟩) la N xs := by
    have := hf.take la (by omega)
    rwa [List.take_append_of_le_length (by omega), List.take_of_length_le (by omega)] at this
  go_enter Try.func20, Try.ntmps20
  go_wp2_with (go_at_call 34; with_reducible refine (same_any _ ao la N la ca xs w hft ha (by omega)).mono ?_; rintro e w1 ⟨rfl, b1⟩)
  go_loop [7] (fun i => ∃ q : Nat, la ≤ q ∧ q ≤ N ∧ i = .int .i64 q) (fun i => N - (intOf i).toNat)
  case atStart => exact ⟨la, Nat.le_refl _, by omega, rfl⟩
  case round =>
    obtain ⟨q, q1, q2, rfl⟩ := hrel
    by_cases hq : q < N
    · have c := cell_later b1 (hcell q hq)
      rw [getD_mark xs q la 80 e1 q1 (by omega), Nat.zero_add] at c
      go_wp2
      go_round
      case rel => exact ⟨q + 1, by omega, by omega, by go_num⟩
      case measure => simp [intOf]; omega
    · go_wp2
      go_ret
      exact ⟨rfl, b1⟩

theorem full_head {w : World} {g N l ca : Nat} {ao : Option Addr} {xs : List Int} (hf : Tx w (some ⟨g, 0, none⟩) N N (xs ++ List.replicate 80 165)) (ha : Tx w ao l ca xs) (hN : N = l + 80) : Tx w (some ⟨g, 0, none⟩) l N xs := by
  have e1 := ha.len_eq
  have := hf.take l (by omega)
  rwa [List.take_append_of_le_length (by omega), List.take_of_length_le (by omega)] at this

theorem all_any (ao : Option Addr) (la ca : Nat) (xs : List Int) (w : World) (ha : Tx w ao la ca xs) (sa : la ≤ 900000000) :
    Calls Try.prog 9 #[.slice ao la ca] w fun e w' => e = .returned (.bool true) ∧ Below w.heap.size w w' := by
  have h1 := fall_any ao la ca xs w ha sa
  have h2 := fun V (h : Below w.heap.size w V) => rall_any ao la ca xs V (ha.later h) sa
  have hgone : (allL xs).1.length ≤ 1000000000 := by
    have : ∀ (n : Nat) (ys : List Int), ys.length ≤ n → (allL ys).1.length ≤ ys.length := by
      intro n
      induction n with
      | zero =>
        intro ys h
        rw [allL_short (by omega)]; simp
      | succ n ih =>
        intro ys h
        by_cases h6 : ys.length < 6
        · rw [allL_short h6]; simp
        · cases hg : goodH ys with
          | false => rw [allL_bad h6 hg]; simp
          | true =>
            by_cases ht : ys.length < 6 + (num3 ys).toNat
            · rw [allL_torn h6 hg ht]; simp
            · have hn : 0 ≤ num3 ys ∨ num3 ys < 0 := by omega
              rw [allL, if_neg h6, if_neg (by simp [hg]), if_neg ht]
              have := ih (ys.drop (6 + (num3 ys).toNat)) (by simp; omega)
              simp at this ⊢
              omega
    have h3 := this xs.length xs (Nat.le_refl _)
    have h4 := ha.len_eq
    omega
  generalize allL xs = R at h1 h2 hgone
  obtain ⟨L, NN, ok⟩ := R
  simp only at h1 h2 hgone
  cases ok with
  | true =>
    simp only [if_true] at h1
    go_enter Try.func9, Try.ntmps9
    go_wp2_with (first
      | (go_at_call 22; with_reducible refine h1.mono ?_; rintro e w1 ⟨bo, lb, cb, rfl, x1, b1⟩; have hlb := x1.len_eq)
      | (go_at_call 27; with_reducible refine (h2 w1 b1).mono ?_; rintro e w2 ⟨co, lc, cc, rfl, x2, b2⟩; have x1 := x1.later RB.stable b2; have B2 := b1.trans (b2.mono b1.size))
      | (go_at_call 23; with_reducible refine (lists_any bo co lb cb lc cc L L w2 x1 x2 rfl (by omega)).mono ?_; rintro e w3 ⟨rfl, b3⟩))
    go_ret
    exact ⟨rfl, B2.trans (b3.mono B2.size)⟩
  | false =>
    simp only [Bool.false_eq_true, if_false] at h1
    go_enter Try.func9, Try.ntmps9
    go_wp2_with (first
      | (go_at_call 22; with_reducible refine h1.mono ?_; rintro e w1 ⟨bo, lb, cb, rfl, x1, b1⟩; have hlb := x1.len_eq)
      | (go_at_call 27; with_reducible refine (h2 w1 b1).mono ?_; rintro e w2 ⟨co, lc, cc, rfl, x2, b2⟩; have x1 := x1.later RB.stable b2; have B2 := b1.trans (b2.mono b1.size))
      | (go_at_call 23; with_reducible refine (lists_any bo co lb cb lc cc L L w2 x1 x2 rfl (by omega)).mono ?_; rintro e w3 ⟨rfl, b3⟩))
    go_ret
    exact ⟨rfl, B2.trans (b3.mono B2.size)⟩

end Go.Proofs.Ytondfbjldonogaa
