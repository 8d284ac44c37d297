/- Plain facts on lists of numbers: a number's lowest bytes, what two lists share, which stands ahead, which comes next. -/
namespace Go.Proofs.Ytdlkakkoaelemaa

/-- How many from the beginning on are the same. -/
def shared : List Int → List Int → Nat
  | x :: xs, y :: ys => if x = y then shared xs ys + 1 else 0
  | [], _ => 0
  | _ :: _, [] => 0

theorem shared_eq : ∀ (xs ys : List Int) (k : Nat), k ≤ xs.length → k ≤ ys.length → (∀ j, j < k → xs.getD j 0 = ys.getD j 0) →
    (k = xs.length ∨ k = ys.length ∨ xs.getD k 0 ≠ ys.getD k 0) → shared xs ys = k
  | [], ys, k, h1, _, _, _ => by simp at h1; subst h1; simp [shared]
  | x :: xs, [], k, _, h2, _, _ => by simp at h2; subst h2; simp [shared]
  | x :: xs, y :: ys, 0, _, _, _, h => by
    simp at h
    simp [shared, h]
  | x :: xs, y :: ys, k + 1, h1, h2, h3, h4 => by
    have e : x = y := by simpa using h3 0 (by omega)
    have := shared_eq xs ys k (by simpa using h1) (by simpa using h2) (fun j hj => by simpa using h3 (j + 1) (by omega)) (by simpa using h4)
    simp [shared, e, this]

theorem shared_le : ∀ (xs ys : List Int), shared xs ys ≤ xs.length ∧ shared xs ys ≤ ys.length
  | [], ys => by simp [shared]
  | x :: xs, [] => by simp [shared]
  | x :: xs, y :: ys => by
    have := shared_le xs ys
    simp only [shared, List.length_cons]
    split <;> omega

/-- Does xs stand ahead of ys? -/
def lessB : List Int → List Int → Bool
  | _, [] => false
  | [], _ :: _ => true
  | x :: xs, y :: ys => decide (x < y) || (x == y && lessB xs ys)

theorem lessB_end : ∀ (xs ys : List Int), shared xs ys = xs.length ∨ shared xs ys = ys.length → lessB xs ys = decide (xs.length < ys.length)
  | [], [], _ => by simp [lessB]
  | [], y :: ys, _ => by simp [lessB]
  | x :: xs, [], _ => by simp [lessB]
  | x :: xs, y :: ys, h => by
    by_cases e : x = y
    · subst e
      have := lessB_end xs ys (by simpa [shared] using h)
      simp [lessB, this]
    · simp [shared, e] at h

theorem lessB_at : ∀ (xs ys : List Int), shared xs ys ≠ xs.length → shared xs ys ≠ ys.length → lessB xs ys = decide (xs.getD (shared xs ys) 0 < ys.getD (shared xs ys) 0)
  | [], ys, h, _ => by simp [shared] at h
  | x :: xs, [], _, h => by simp [shared] at h
  | x :: xs, y :: ys, h1, h2 => by
    by_cases e : x = y
    · subst e
      have := lessB_at xs ys (by simpa [shared] using h1) (by simpa [shared] using h2)
      simp [lessB, shared, this]
    · simp [lessB, shared, e]

end Go.Proofs.Ytdlkakkoaelemaa
