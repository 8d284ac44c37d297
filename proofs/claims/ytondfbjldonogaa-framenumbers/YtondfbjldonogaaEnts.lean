/- The walk of the statements' own 'entries': Entries against the document's. -/
import Derived.Test.YtondfbjldonogaaWalksT
import Derived.Test.YtondfbjldonogaaBack
namespace Go.Proofs.Ytondfbjldonogaa
open Go.RowKit

theorem ents_nope (ao : Option Addr) (la ca : Nat) (xs : List Int) (w : World) (ha : Tx w ao la ca xs) (sa : la ≤ 900000000) (hp : entriesL xs = none) :
    Calls Try.prog 25 #[.slice ao la ca] w fun e w' => e = .returned (.tuple #[.slice none 0 0, .int .i64 12]) ∧ Below w.heap.size w w' := by
  refine (fents_any ao la ca xs w ha sa).mono ?_
  rintro e w' (⟨es', bo, lb, cb, h1, _⟩ | ⟨h1, he, hb⟩)
  · rw [hp] at h1; cases h1
  · exact ⟨he, hb⟩
theorem rents_yes (ao : Option Addr) (la ca : Nat) (xs : List Int) (w : World) (ha : Tx w ao la ca xs) (sa : la ≤ 900000000) (es : List Ent) (hp : entriesL xs = some es) :
    Calls Try.prog 29 #[.slice ao la ca] w fun e w' => ∃ bo lb cb, e = .returned (.tuple #[.slice bo lb cb, .bool true]) ∧ Lx 3 RE w' bo lb cb es ∧ Below w.heap.size w w' := by
  refine (rents_any ao la ca xs w ha sa).mono ?_
  rintro e w' (⟨es', bo, lb, cb, h1, he, hx, hb⟩ | ⟨h1, _⟩)
  · rw [hp] at h1
    cases h1
    exact ⟨bo, lb, cb, he, hx, hb⟩
  · rw [hp] at h1; cases h1
theorem rents_nope (ao : Option Addr) (la ca : Nat) (xs : List Int) (w : World) (ha : Tx w ao la ca xs) (sa : la ≤ 900000000) (hp : entriesL xs = none) :
    Calls Try.prog 29 #[.slice ao la ca] w fun e w' => e = .returned (.tuple #[.slice none 0 0, .bool false]) ∧ Below w.heap.size w w' := by
  refine (rents_any ao la ca xs w ha sa).mono ?_
  rintro e w' (⟨es', bo, lb, cb, h1, _⟩ | ⟨h1, he, hb⟩)
  · rw [hp] at h1; cases h1
  · exact ⟨he, hb⟩

theorem entriesL_len {xs : List Int} {es : List Ent} (h : entriesL xs = some es) : es.length ≤ 8191 := by
  have hN : ∀ (n : Nat) (r : List Int) (l : List Ent) (q : List Int), parseN n r = some (l, q) → l.length = n := by
    intro n
    induction n with
    | zero => intro r l q h; simp [parseN] at h; simp [← h.1]
    | succ n ih =>
      intro r l q h
      rw [parseN] at h
      cases h1 : parseE r with
      | none => rw [h1] at h; cases h
      | some p =>
        obtain ⟨e, r'⟩ := p
        rw [h1] at h
        simp only at h
        cases h2 : parseN n r' with
        | none => rw [h2] at h; cases h
        | some p2 =>
          obtain ⟨l2, q2⟩ := p2
          rw [h2] at h
          simp at h
          have := ih r' l2 q2 h2
          rw [← h.1]; simp [this]
  unfold entriesL at h
  split at h
  · cases h
  · rename_i n r h1
    have hn : n ≤ 8191 := by
      unfold takeN at h1
      split at h1
      · cases h1
      · cases h1; omega
    split at h
    · rename_i es' h2
      have := hN _ _ _ _ h2
      cases h
      omega
    · cases h

theorem entries_any (ao : Option Addr) (la ca : Nat) (xs : List Int) (w : World) (ha : Tx w ao la ca xs) (sa : la ≤ 900000000) :
    Calls Try.prog 11 #[.slice ao la ca] w fun e w' => e = .returned (.bool true) ∧ Below w.heap.size w w' := by
  cases hp : entriesL xs with
  | none =>
    have f1 := ents_nope ao la ca xs w ha sa hp
    have f2 := fun V (hV : Below w.heap.size w V) => rents_nope ao la ca xs V (ha.later hV) sa hp
    have hs : ∀ V, Calls Try.prog 26 #[.slice none 0 0, .slice none 0 0] V fun e w' => e = .returned (.bool true) ∧ Below V.heap.size V w' := fun V => same8_any none none 0 0 0 0 [] [] V (Lx.nil _ _ _) (Lx.nil _ _ _) (by omega) (by omega)
    clear hp
    go_enter Try.func11, Try.ntmps11
    go_wp2_with (first
      | (go_at_call 25; with_reducible refine f1.mono ?_; rintro e w1 ⟨rfl, b1⟩)
      | (go_at_call 29; with_reducible refine (f2 w1 b1).mono ?_; rintro e w2 ⟨rfl, b2⟩; have B2 := b1.trans (b2.mono b1.size))
      | (go_at_call 26; with_reducible refine (hs w2).mono ?_; rintro e w3 ⟨rfl, b3⟩))
    go_ret
    exact ⟨rfl, B2.trans (b3.mono B2.size)⟩
  | some es =>
    have hle := entriesL_len hp
    have f1 := ents_yes ao la ca xs w ha sa es hp
    have f2 := fun V (hV : Below w.heap.size w V) => rents_yes ao la ca xs V (ha.later hV) sa es hp
    have hsm := sameL_refl es
    clear hp
    go_enter Try.func11, Try.ntmps11
    go_wp2_with (first
      | (go_at_call 25; with_reducible refine f1.mono ?_; rintro e w1 ⟨bo, lb, cb, rfl, x1, b1⟩; have h1 := x1.len_eq)
      | (go_at_call 29; with_reducible refine (f2 w1 b1).mono ?_; rintro e w2 ⟨co, lc, cc, rfl, x2, b2⟩; have B2 := b1.trans (b2.mono b1.size); have h2 := x2.len_eq; have hs := same8_any bo co lb cb lc cc es es w2 (x1.later RE.stable b2) x2 (by omega) (by omega); rw [hsm] at hs)
      | (go_at_call 26; with_reducible refine hs.mono ?_; rintro e w3 ⟨rfl, b3⟩))
    go_ret
    exact ⟨rfl, B2.trans (b3.mono B2.size)⟩

end Go.Proofs.Ytondfbjldonogaa
