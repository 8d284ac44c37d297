/- Plain facts on lists of numbers: a number's lowest bytes. -/
namespace Go.Proofs.Ytdlkakkoaelemaa

/-- n's lowest k bytes, the highest first. -/
def low : Nat → Int → List Int
  | 0, _ => []
  | k + 1, n => n / 256 ^ k % 256 :: low k n

theorem length_low (n : Int) : ∀ k, (low k n).length = k
  | 0 => rfl
  | k + 1 => by simp [low, length_low n k]

theorem low_snoc (n : Int) : ∀ k, low (k + 1) n = low k (n / 256) ++ [n % 256]
  | 0 => by simp [low]
  | k + 1 => by
    have h := low_snoc n k
    have e : n / 256 ^ (k + 1) = n / 256 / 256 ^ k := by
      rw [Int.pow_succ, Int.mul_comm, Int.ediv_ediv_of_nonneg (by decide)]
    rw [low, h, e]
    simp [low]

theorem low_rng (n : Int) : ∀ k, ∀ x ∈ low k n, 0 ≤ x ∧ x ≤ 255
  | 0 => by simp [low]
  | k + 1 => by
    intro x hx
    simp only [low, List.mem_cons] at hx
    rcases hx with rfl | hx
    · omega
    · exact low_rng n k x hx

/-- How many bytes: a size brought into 0 .. 8. -/
def clampN (size : Int) : Nat := (max 0 (min size 8)).toNat

theorem clampN_le (size : Int) : clampN size ≤ 8 := by unfold clampN; omega

theorem clampN_cast (size : Int) : ((clampN size : Nat) : Int) = max 0 (min size 8) := by unfold clampN; omega

end Go.Proofs.Ytdlkakkoaelemaa
