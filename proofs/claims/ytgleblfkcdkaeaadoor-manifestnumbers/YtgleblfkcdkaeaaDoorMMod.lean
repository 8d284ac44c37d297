/- Lists of tables as plain data: which may be, their bytes, and what reads bytes. -/
import Derived.Test.YtgleblfkcdkaeaaDoorFMod2
namespace Go.Proofs.YtgleblfkcdkaeaaDoor

structure Man where
  ts : List Int
  wal : Int
  nxt : Int

def Man.Right (m : Man) : Prop := m.ts.length ≤ 255 ∧ 0 ≤ m.wal ∧ m.wal < m.nxt ∧ m.nxt ≤ 16777215 ∧ (∀ n ∈ m.ts, 0 ≤ n ∧ n < m.nxt) ∧ m.ts.Nodup
instance (m : Man) : Decidable m.Right := by unfold Man.Right; infer_instance

def Man.enc (m : Man) : List Int := low 1 m.ts.length ++ m.ts.flatMap (low 3) ++ low 3 m.wal ++ low 3 m.nxt

/-- The first k numbers of three bytes. -/
def nums (k : Nat) (xs : List Int) : List Int := (List.range k).map fun i => num3 (xs.drop (3 * i))
theorem nums_succ (k : Nat) (xs : List Int) : nums (k + 1) xs = nums k xs ++ [num3 (xs.drop (3 * k))] := by simp [nums, List.range_succ]
theorem nums_length (k : Nat) (xs : List Int) : (nums k xs).length = k := by simp [nums]
theorem nums_next (k : Nat) (xs : List Int) : nums (k + 1) xs = num3 xs :: nums k (xs.drop 3) := by
  unfold nums
  rw [List.range_succ_eq_map]
  simp [List.map_map, Function.comp_def, Nat.mul_add, Nat.add_comm]

def manOf (xs : List Int) : Man := ⟨nums (num1 xs).toNat (xs.drop 1), num3 (xs.drop (1 + 3 * (num1 xs).toNat)), num3 (xs.drop (4 + 3 * (num1 xs).toNat))⟩
/-- The bytes are as many as they tell. -/
def FitM (xs : List Int) : Prop := 1 ≤ xs.length ∧ xs.length = 7 + 3 * (num1 xs).toNat
instance (xs : List Int) : Decidable (FitM xs) := by unfold FitM; infer_instance
def decM (xs : List Int) : Option Man := if FitM xs ∧ (manOf xs).Right then some (manOf xs) else none

theorem flat_len : ∀ ts : List Int, (ts.flatMap (low 3)).length = 3 * ts.length
  | [] => rfl
  | t :: ts => by rw [List.flatMap_cons, List.length_append, length_low, flat_len ts, List.length_cons]; omega
theorem Man.enc_len (m : Man) : m.enc.length = 7 + 3 * m.ts.length := by
  unfold Man.enc
  rw [List.length_append, List.length_append, List.length_append, length_low, length_low, length_low, flat_len]; omega
theorem Man.enc_rng (m : Man) : ∀ x ∈ m.enc, 0 ≤ x ∧ x ≤ 255 := by
  intro x hx
  simp only [Man.enc, List.mem_append, List.mem_flatMap] at hx
  rcases hx with ((h | ⟨_, _, h⟩) | h) | h <;> exact low_rng _ _ _ h
theorem nums_flat : ∀ (ts : List Int) (ys : List Int), (∀ n ∈ ts, 0 ≤ n ∧ n ≤ 16777215) → nums ts.length (ts.flatMap (low 3) ++ ys) = ts
  | [], _, _ => rfl
  | t :: ts, ys, h => by
    have h1 := h t (by simp)
    have ih := nums_flat ts ys (fun n hn => h n (by simp [hn]))
    have e : (low 3 t ++ (ts.flatMap (low 3) ++ ys)).drop 3 = ts.flatMap (low 3) ++ ys := by
      have := List.drop_left (l₁ := low 3 t) (l₂ := ts.flatMap (low 3) ++ ys)
      rwa [length_low] at this
    simp only [List.flatMap_cons, List.length_cons, List.append_assoc]
    rw [nums_next, e, num3_low t h1.1 h1.2, ih]
theorem num1_enc (m : Man) (h : m.ts.length ≤ 255) (ys : List Int) : num1 (m.enc ++ ys) = m.ts.length := by
  unfold Man.enc num1
  rw [low1]
  simp
  omega
theorem decM_enc (m : Man) (h : m.Right) : decM m.enc = some m := by
  obtain ⟨h1, h2, h3, h4, h5, h6⟩ := h
  have n1 : num1 m.enc = m.ts.length := by have := num1_enc m h1 []; simpa using this
  have hl := m.enc_len
  have d1 : m.enc.drop 1 = m.ts.flatMap (low 3) ++ (low 3 m.wal ++ low 3 m.nxt) := by
    unfold Man.enc; rw [low1]; simp
  have d2 : m.enc.drop (1 + 3 * m.ts.length) = low 3 m.wal ++ low 3 m.nxt := by
    have := List.drop_left (l₁ := m.ts.flatMap (low 3)) (l₂ := low 3 m.wal ++ low 3 m.nxt)
    rw [flat_len] at this
    rw [← List.drop_drop, d1, this]
  have d3 : m.enc.drop (4 + 3 * m.ts.length) = low 3 m.nxt ++ [] := by
    have := List.drop_left (l₁ := low 3 m.wal) (l₂ := low 3 m.nxt)
    rw [length_low] at this
    rw [show 4 + 3 * m.ts.length = (1 + 3 * m.ts.length) + 3 by omega, ← List.drop_drop, d2, this, List.append_nil]
  have e : manOf m.enc = m := by
    unfold manOf
    rw [n1, Int.toNat_natCast, d1, d2, d3, nums_flat m.ts _ (fun n hn => by have := h5 n hn; omega), num3_low m.wal h2 (by omega), num3_low m.nxt (by omega) h4]
  unfold decM
  rw [e, if_pos]
  exact ⟨⟨by omega, by rw [n1, Int.toNat_natCast]; exact hl⟩, h1, h2, h3, h4, h5, h6⟩
theorem decM_none {xs : List Int} (h : ¬ (FitM xs ∧ (manOf xs).Right)) : decM xs = none := by unfold decM; rw [if_neg h]
theorem decM_some {xs : List Int} (h : FitM xs ∧ (manOf xs).Right) : decM xs = some (manOf xs) := by unfold decM; rw [if_pos h]

end Go.Proofs.YtgleblfkcdkaeaaDoor
