/- The walk of the statements' own 'entries': Entries against the document's. -/
import Derived.Test.YtkbhhidmndhnoaaFWalksT
import Derived.Test.YtkbhhidmndhnoaaFKnown
namespace Go.Proofs.Ytkbhhidmndhnoaa
open Go.RowKit

theorem ents_nope (ao : Option Addr) (la ca : Nat) (xs : List Int) (w : World) (ha : Tx w ao la ca xs) (sa : la ≤ 900000000) (hp : entriesL xs = none) :
    Calls Try.prog 53 #[.slice ao la ca] w fun e w' => e = .returned (.tuple #[.slice none 0 0, .int .i64 12]) ∧ Below w.heap.size w w' := by
  refine (fents_any ao la ca xs w ha sa).mono ?_
  rintro e w' (⟨es', bo, lb, cb, h1, _⟩ | ⟨h1, he, hb⟩)
  · rw [hp] at h1; cases h1
  · exact ⟨he, hb⟩
theorem rents_yes (ao : Option Addr) (la ca : Nat) (xs : List Int) (w : World) (ha : Tx w ao la ca xs) (sa : la ≤ 900000000) (es : List Ent) (hp : entriesL xs = some es) :
    Calls Try.prog 31 #[.slice ao la ca] w fun e w' => ∃ bo lb cb, e = .returned (.tuple #[.slice bo lb cb, .bool true]) ∧ Lv 3 RE (List.range w.heap.size) w' bo lb cb es ∧ Below w.heap.size w w' := by
  refine (rents_any ao la ca xs w ha sa).mono ?_
  rintro e w' (⟨es', bo, lb, cb, h1, he, hx, hb⟩ | ⟨h1, _⟩)
  · rw [hp] at h1
    cases h1
    exact ⟨bo, lb, cb, he, hx, hb⟩
  · rw [hp] at h1; cases h1
theorem rents_nope (ao : Option Addr) (la ca : Nat) (xs : List Int) (w : World) (ha : Tx w ao la ca xs) (sa : la ≤ 900000000) (hp : entriesL xs = none) :
    Calls Try.prog 31 #[.slice ao la ca] w fun e w' => e = .returned (.tuple #[.slice none 0 0, .bool false]) ∧ Below w.heap.size w w' := by
  refine (rents_any ao la ca xs w ha sa).mono ?_
  rintro e w' (⟨es', bo, lb, cb, h1, _⟩ | ⟨h1, he, hb⟩)
  · rw [hp] at h1; cases h1
  · exact ⟨he, hb⟩

theorem entriesL_len {xs : List Int} {es : List Ent} (h : entriesL xs = some es) : es.length ≤ 8191 := by
  have hN : ∀ (n : Nat) (r : List Int) (l : List Ent) (q : List Int), parseN n r = some (l, q) → l.length = n := by
    intro n
    induction n with
    | zero => intro r l q h; simp [parseN] at h; simp [← h.1]
    | succ n ih =>
      intro r l q h
      rw [parseN] at h
      cases h1 : parseE r with
      | none => rw [h1] at h; cases h
      | some p =>
        obtain ⟨e, r'⟩ := p
        rw [h1] at h
        simp only at h
        cases h2 : parseN n r' with
        | none => rw [h2] at h; cases h
        | some p2 =>
          obtain ⟨l2, q2⟩ := p2
          rw [h2] at h
          simp at h
          have := ih r' l2 q2 h2
          rw [← h.1]; simp [this]
  unfold entriesL at h
  split at h
  · cases h
  · rename_i n r h1
    have hn : n ≤ 8191 := by
      unfold takeN at h1
      split at h1
      · cases h1
      · cases h1; omega
    split at h
    · rename_i es' h2
      have := hN _ _ _ _ h2
      cases h
      omega
    · cases h

end Go.Proofs.Ytkbhhidmndhnoaa
