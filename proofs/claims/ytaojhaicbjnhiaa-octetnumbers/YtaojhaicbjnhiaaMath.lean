/- Plain facts on lists of numbers: a number's lowest bytes, what two lists share, which stands ahead, which comes next. -/
namespace Go.Proofs.Ytaojhaicbjnhiaa

/-- n's lowest k bytes, the highest first. -/
def low : Nat → Int → List Int
  | 0, _ => []
  | k + 1, n => n / 256 ^ k % 256 :: low k n

theorem length_low (n : Int) : ∀ k, (low k n).length = k
  | 0 => rfl
  | k + 1 => by simp [low, length_low n k]

theorem low_snoc (n : Int) : ∀ k, low (k + 1) n = low k (n / 256) ++ [n % 256]
  | 0 => by simp [low]
  | k + 1 => by
    have h := low_snoc n k
    have e : n / 256 ^ (k + 1) = n / 256 / 256 ^ k := by
      rw [Int.pow_succ, Int.mul_comm, Int.ediv_ediv_of_nonneg (by decide)]
    rw [low, h, e]
    simp [low]

theorem low_rng (n : Int) : ∀ k, ∀ x ∈ low k n, 0 ≤ x ∧ x ≤ 255
  | 0 => by simp [low]
  | k + 1 => by
    intro x hx
    simp only [low, List.mem_cons] at hx
    rcases hx with rfl | hx
    · omega
    · exact low_rng n k x hx

/-- How many bytes: a size brought into 0 .. 8. -/
def clampN (size : Int) : Nat := (max 0 (min size 8)).toNat
theorem clampN_le (size : Int) : clampN size ≤ 8 := by unfold clampN; omega
theorem clampN_cast (size : Int) : ((clampN size : Nat) : Int) = max 0 (min size 8) := by unfold clampN; omega

/-- How many from the beginning on are the same. -/
def shared : List Int → List Int → Nat
  | x :: xs, y :: ys => if x = y then shared xs ys + 1 else 0
  | [], _ => 0
  | _ :: _, [] => 0

theorem shared_eq : ∀ (xs ys : List Int) (k : Nat), k ≤ xs.length → k ≤ ys.length → (∀ j, j < k → xs.getD j 0 = ys.getD j 0) →
    (k = xs.length ∨ k = ys.length ∨ xs.getD k 0 ≠ ys.getD k 0) → shared xs ys = k
  | [], ys, k, h1, _, _, _ => by simp at h1; subst h1; simp [shared]
  | x :: xs, [], k, _, h2, _, _ => by simp at h2; subst h2; simp [shared]
  | x :: xs, y :: ys, 0, _, _, _, h => by
    simp at h
    simp [shared, h]
  | x :: xs, y :: ys, k + 1, h1, h2, h3, h4 => by
    have e : x = y := by simpa using h3 0 (by omega)
    have := shared_eq xs ys k (by simpa using h1) (by simpa using h2) (fun j hj => by simpa using h3 (j + 1) (by omega)) (by simpa using h4)
    simp [shared, e, this]

theorem shared_le : ∀ (xs ys : List Int), shared xs ys ≤ xs.length ∧ shared xs ys ≤ ys.length
  | [], ys => by simp [shared]
  | x :: xs, [] => by simp [shared]
  | x :: xs, y :: ys => by
    have := shared_le xs ys
    simp only [shared, List.length_cons]
    split <;> omega

/-- Does xs stand ahead of ys? -/
def lessB : List Int → List Int → Bool
  | _, [] => false
  | [], _ :: _ => true
  | x :: xs, y :: ys => decide (x < y) || (x == y && lessB xs ys)

theorem lessB_end : ∀ (xs ys : List Int), shared xs ys = xs.length ∨ shared xs ys = ys.length → lessB xs ys = decide (xs.length < ys.length)
  | [], [], _ => by simp [lessB]
  | [], y :: ys, _ => by simp [lessB]
  | x :: xs, [], _ => by simp [lessB]
  | x :: xs, y :: ys, h => by
    by_cases e : x = y
    · subst e
      have := lessB_end xs ys (by simpa [shared] using h)
      simp [lessB, this]
    · simp [shared, e] at h

theorem lessB_at : ∀ (xs ys : List Int), shared xs ys ≠ xs.length → shared xs ys ≠ ys.length → lessB xs ys = decide (xs.getD (shared xs ys) 0 < ys.getD (shared xs ys) 0)
  | [], ys, h, _ => by simp [shared] at h
  | x :: xs, [], _, h => by simp [shared] at h
  | x :: xs, y :: ys, h1, h2 => by
    by_cases e : x = y
    · subst e
      have := lessB_at xs ys (by simpa [shared] using h1) (by simpa [shared] using h2)
      simp [lessB, shared, this]
    · simp [lessB, shared, e]

/-- Where what is no 255 ends. -/
def tip : List Int → Nat
  | [] => 0
  | x :: xs => if tip xs = 0 then (if x = 255 then 0 else 1) else tip xs + 1

theorem tip_eq : ∀ (xs : List Int) (k : Nat), k ≤ xs.length → (∀ j, k ≤ j → j < xs.length → xs.getD j 0 = 255) → (k = 0 ∨ xs.getD (k - 1) 0 ≠ 255) → tip xs = k
  | [], k, h, _, _ => by simp at h; subst h; rfl
  | x :: xs, 0, _, h, _ => by
    have e : x = 255 := by simpa using h 0 (by omega) (by simp)
    have := tip_eq xs 0 (by omega) (fun j _ hj => by simpa using h (j + 1) (by omega) (by simpa using hj)) (.inl rfl)
    simp [tip, this, e]
  | x :: xs, 1, _, h, h2 => by
    have e : x ≠ 255 := by simpa using h2
    have := tip_eq xs 0 (by omega) (fun j _ hj => by simpa using h (j + 1) (by omega) (by simpa using hj)) (.inl rfl)
    simp [tip, this, e]
  | x :: xs, k + 2, h0, h, h2 => by
    have := tip_eq xs (k + 1) (by simpa using h0) (fun j hk hj => by simpa using h (j + 1) (by omega) (by simpa using hj)) (.inr (by simpa using h2))
    simp [tip, this]

theorem tip_le : ∀ xs : List Int, tip xs ≤ xs.length
  | [] => by simp [tip]
  | x :: xs => by have := tip_le xs; simp only [tip, List.length_cons]; split <;> (try split) <;> omega

theorem tip_at : ∀ xs : List Int, tip xs ≠ 0 → xs.getD (tip xs - 1) 0 ≠ 255
  | [], h => by simp [tip] at h
  | x :: xs, h => by
    by_cases e : tip xs = 0
    · by_cases e2 : x = 255
      · simp [tip, e, e2] at h
      · simp [tip, e, e2]
    · have := tip_at xs e
      obtain ⟨m, hm⟩ := Nat.exists_eq_succ_of_ne_zero e
      simp only [tip, hm] at this ⊢
      simpa using this

/-- The text that comes next: none where there is no byte that can rise. -/
def nextL (xs : List Int) : List Int := if tip xs = 0 then [] else xs.take (tip xs - 1) ++ [xs.getD (tip xs - 1) 0 + 1]

theorem length_nextL (xs : List Int) : (nextL xs).length = tip xs := by
  have := tip_le xs
  unfold nextL
  split
  · simp_all
  · simp; omega

theorem nextL_rng (xs : List Int) (h : ∀ x ∈ xs, 0 ≤ x ∧ x ≤ 255) : ∀ x ∈ nextL xs, 0 ≤ x ∧ x ≤ 255 := by
  intro x hx
  unfold nextL at hx
  split at hx
  · simp at hx
  · rename_i h0
    have h1 := tip_le xs
    have h2 := tip_at xs h0
    rw [List.mem_append] at hx
    rcases hx with hx | hx
    · exact h x (List.mem_of_mem_take hx)
    · simp only [List.mem_singleton] at hx
      have e : xs.getD (tip xs - 1) 0 = xs[tip xs - 1]'(by omega) := by simp [List.getD, show tip xs - 1 < xs.length by omega]
      have := h _ (List.getElem_mem (l := xs) (n := tip xs - 1) (by omega))
      rw [← e] at this
      omega

end Go.Proofs.Ytaojhaicbjnhiaa
