/- Records and batches as plain lists of numbers: how they are laid, how they are read. -/
import Derived.Test.YtdlkakkoaelemaaFMath
namespace Go.Proofs.Ytdlkakkoaelemaa

/-- All are bytes. -/
def Bytes (xs : List Int) : Prop := ∀ n ∈ xs, 0 ≤ n ∧ n ≤ 255

theorem Bytes.app {xs ys : List Int} (h : Bytes xs) (k : Bytes ys) : Bytes (xs ++ ys) := fun n hn => (List.mem_append.1 hn).elim (h n) (k n)
theorem Bytes.take {xs : List Int} (h : Bytes xs) (k : Nat) : Bytes (xs.take k) := fun n hn => h n (List.mem_of_mem_take hn)
theorem Bytes.drop {xs : List Int} (h : Bytes xs) (k : Nat) : Bytes (xs.drop k) := fun n hn => h n (List.mem_of_mem_drop hn)
theorem Bytes.low (k : Nat) (n : Int) : Bytes (low k n) := low_rng n k
theorem Bytes.tail {x : Int} {xs : List Int} (h : Bytes (x :: xs)) : Bytes xs := fun n hn => h n (by simp [hn])
theorem Bytes.head {x : Int} {xs : List Int} (h : Bytes (x :: xs)) : 0 ≤ x ∧ x ≤ 255 := h x (by simp)
theorem Bytes.cons {x : Int} {xs : List Int} (h : 0 ≤ x ∧ x ≤ 255) (k : Bytes xs) : Bytes (x :: xs) := fun n hn => by
  rcases List.mem_cons.1 hn with rfl | hn
  · exact h
  · exact k n hn
theorem Bytes.nil : Bytes [] := by simp [Bytes]

theorem low1 (n : Int) : low 1 n = [n % 256] := by simp [low]
theorem low2 (n : Int) : low 2 n = [n / 256 % 256, n % 256] := by simp [low]
theorem low3 (n : Int) : low 3 n = [n / 65536 % 256, n / 256 % 256, n % 256] := by simp [low]

/-- What stands ahead of a record of n bytes. -/
def headN (n : Int) : Int := n * 16777216 + (16777215 - n)
def headL (n : Nat) : List Int := low 3 n ++ low 3 (16777215 - n)
theorem length_headL (n : Nat) : (headL n).length = 6 := by simp [headL, length_low]
theorem low_join (j : Nat) (a : Int) : ∀ (k : Nat) (b : Int), 0 ≤ b → b < 256 ^ k → low (j + k) (a * 256 ^ k + b) = low j a ++ low k b
  | 0, b, h1, h2 => by
    have : b = 0 := by simp at h2; omega
    subst this
    simp [low]
  | k + 1, b, h1, h2 => by
    have h2' : b < 256 ^ k * 256 := by rw [← Int.pow_succ]; exact h2
    have ih := low_join j a k (b / 256) (by omega) (by omega)
    have e1 : (a * 256 ^ (k + 1) + b) / 256 = a * 256 ^ k + b / 256 := by
      rw [Int.pow_succ, ← Int.mul_assoc]; omega
    have e2 : (a * 256 ^ (k + 1) + b) % 256 = b % 256 := by
      rw [Int.pow_succ, ← Int.mul_assoc]; omega
    rw [← Nat.add_assoc, low_snoc, e1, e2, ih, low_snoc, List.append_assoc]
theorem headL_low (n : Nat) (h : n ≤ 16777215) : low 6 (headN n) = headL n :=
  low_join 3 (n : Int) 3 (16777215 - n) (by omega) (by omega)

def recL (x : List Int) : List Int := headL x.length ++ x
theorem length_recL (x : List Int) : (recL x).length = x.length + 6 := by simp [recL, length_headL]; omega
def rowL (l : List (List Int)) : List Int := l.flatMap recL

/-- A head: three bytes and three bytes. -/
def num3 (xs : List Int) : Int := xs.getD 0 0 * 65536 + xs.getD 1 0 * 256 + xs.getD 2 0
theorem num3_rng {xs : List Int} (h : Bytes xs) : 0 ≤ num3 xs ∧ num3 xs ≤ 16777215 := by
  have g : ∀ j, 0 ≤ xs.getD j 0 ∧ xs.getD j 0 ≤ 255 := fun j => by
    by_cases hj : j < xs.length
    · have e : xs.getD j 0 = xs[j] := by simp [List.getD, hj]
      rw [e]; exact h _ (List.getElem_mem hj)
    · simp [List.getD, hj]
  have := g 0; have := g 1; have := g 2
  unfold num3; omega

theorem num3_low (n : Int) (h : 0 ≤ n) (k : n ≤ 16777215) (ys : List Int) : num3 (low 3 n ++ ys) = n := by
  simp [num3, low3]; omega

/-- Is there a head that may be? -/
def goodH (xs : List Int) : Bool := decide (num3 xs + num3 (xs.drop 3) = 16777215 ∧ num3 xs ≤ 1048576)

/-- The records from the beginning on, where the last ends, is what is left torn? -/
def allL (xs : List Int) : List (List Int) × Nat × Bool :=
  if xs.length < 6 then ([], 0, true)
  else if goodH xs = false then ([], 0, false)
  else if xs.length < 6 + (num3 xs).toNat then ([], 0, true)
  else
    let r := allL (xs.drop (6 + (num3 xs).toNat))
    ((xs.drop 6).take (num3 xs).toNat :: r.1, 6 + (num3 xs).toNat + r.2.1, r.2.2)
termination_by xs.length
decreasing_by simp; omega

theorem allL_short {xs : List Int} (h : xs.length < 6) : allL xs = ([], 0, true) := by rw [allL, if_pos h]
theorem allL_bad {xs : List Int} (h : ¬ xs.length < 6) (k : goodH xs = false) : allL xs = ([], 0, false) := by rw [allL, if_neg h, if_pos k]
theorem allL_torn {xs : List Int} (h : ¬ xs.length < 6) (k : goodH xs = true) (m : xs.length < 6 + (num3 xs).toNat) : allL xs = ([], 0, true) := by rw [allL, if_neg h, if_neg (by simp [k]), if_pos m]
theorem allL_step {xs : List Int} (h : ¬ xs.length < 6) (k : goodH xs = true) (n : Nat) (hn : num3 xs = n) (m : ¬ xs.length < 6 + n) :
    allL xs = ((xs.drop 6).take n :: (allL (xs.drop (6 + n))).1, 6 + n + (allL (xs.drop (6 + n))).2.1, (allL (xs.drop (6 + n))).2.2) := by
  have e : (num3 xs).toNat = n := by omega
  rw [allL, if_neg h, if_neg (by simp [k]), if_neg (by rw [e]; exact m), e]

/-- What was gone through, and what is left. -/
def Gone (xs : List Int) (out : List (List Int)) (a : Nat) : Prop := a ≤ xs.length ∧ out.length ≤ a ∧ allL xs = (out ++ (allL (xs.drop a)).1, a + (allL (xs.drop a)).2.1, (allL (xs.drop a)).2.2)
theorem Gone.start (xs : List Int) : Gone xs [] 0 := ⟨by simp, by simp, by simp⟩
theorem Gone.stop {xs : List Int} {out : List (List Int)} {a : Nat} (h : Gone xs out a) {b : Bool} (k : allL (xs.drop a) = ([], 0, b)) : allL xs = (out, a, b) := by
  rw [h.2.2, k]; simp
theorem Gone.step {xs : List Int} {out : List (List Int)} {a n : Nat} (h : Gone xs out a) (h6 : ¬ (xs.drop a).length < 6) (k : goodH (xs.drop a) = true) (hn : num3 (xs.drop a) = n) (m : ¬ (xs.drop a).length < 6 + n) :
    Gone xs (out ++ [((xs.drop a).drop 6).take n]) (a + 6 + n) := by
  have e := allL_step h6 k n hn m
  simp only [List.length_drop] at m h6
  have h0 := h.2.1
  refine ⟨by omega, by simp; omega, ?_⟩
  rw [h.2.2, e, List.drop_drop]
  simp [Nat.add_assoc]

theorem goodH_rec (x : List Int) (h : x.length ≤ 1048576) (ys : List Int) : goodH (recL x ++ ys) = true ∧ num3 (recL x ++ ys) = (x.length : Int) := by
  have h1 : num3 (recL x ++ ys) = (x.length : Int) := by
    rw [recL, headL, List.append_assoc, List.append_assoc]; exact num3_low _ (by omega) (by omega) _
  have h2 : num3 ((recL x ++ ys).drop 3) = 16777215 - (x.length : Int) := by
    rw [recL, headL, List.append_assoc, List.append_assoc, List.drop_left' (by simp [length_low])]; exact num3_low _ (by omega) (by omega) _
  refine ⟨?_, h1⟩
  simp only [goodH, h1, h2, decide_eq_true_eq]
  omega

theorem allL_rec (x : List Int) (h : x.length ≤ 1048576) (ys : List Int) : allL (recL x ++ ys) = (x :: (allL ys).1, x.length + 6 + (allL ys).2.1, (allL ys).2.2) := by
  obtain ⟨h1, h2⟩ := goodH_rec x h ys
  have hl := length_recL x
  have e := allL_step (xs := recL x ++ ys) (by simp [hl]; omega) h1 x.length h2 (by simp [hl]; omega)
  have e2 : ((recL x ++ ys).drop 6).take x.length = x := by
    rw [recL, List.append_assoc, List.drop_left' (length_headL _), List.take_left]
  have e3 : (recL x ++ ys).drop (6 + x.length) = ys := List.drop_left' (by rw [hl]; omega)
  rw [e, e2, e3, Nat.add_comm 6]

theorem allL_row : ∀ (l : List (List Int)), (∀ x ∈ l, x.length ≤ 1048576) → allL (rowL l) = (l, (rowL l).length, true)
  | [], _ => by rw [rowL]; exact allL_short (by simp)
  | x :: l, h => by
    have := allL_row l (fun y hy => h y (by simp [hy]))
    show allL (recL x ++ rowL l) = _
    rw [allL_rec x (h x (by simp)), this]
    simp [rowL, length_recL]

theorem allL_cut : ∀ (l : List (List Int)), (∀ x ∈ l, x.length ≤ 1048576) → ∀ c, ∃ m, m ≤ l.length ∧ (allL ((rowL l).take c)).1 = l.take m ∧ (allL ((rowL l).take c)).2.1 ≤ c ∧ (allL ((rowL l).take c)).2.2 = true
  | [], _, c => ⟨0, by simp, by simp [rowL, allL_short]⟩
  | x :: l, h, c => by
    have hx := h x (by simp)
    have hl := length_recL x
    have er : rowL (x :: l) = recL x ++ rowL l := rfl
    by_cases hc : x.length + 6 ≤ c
    · obtain ⟨m, h1, h2, h3, h4⟩ := allL_cut l (fun y hy => h y (by simp [hy])) (c - (x.length + 6))
      have et : (rowL (x :: l)).take c = recL x ++ (rowL l).take (c - (x.length + 6)) := by
        rw [er, List.take_append, hl, List.take_of_length_le (by omega)]
      refine ⟨m + 1, by simp; omega, ?_⟩
      rw [et, allL_rec x hx]
      simp only
      refine ⟨by simp [h2], by omega, h4⟩
    · refine ⟨0, by omega, ?_⟩
      have et : (rowL (x :: l)).take c = (recL x).take c := by
        rw [er, List.take_append_of_le_length (by omega)]
      rw [et]
      have hlen : ((recL x).take c).length = c := by simp; omega
      by_cases h6 : c < 6
      · rw [allL_short (by omega)]; simp
      · obtain ⟨g1, g2⟩ := goodH_rec x hx []
        rw [List.append_nil] at g1 g2
        have t3 : ∀ j, j < c → ((recL x).take c).getD j 0 = (recL x).getD j 0 := fun j hj => by simp [List.getD, hj]
        have n1 : num3 ((recL x).take c) = num3 (recL x) := by
          simp only [num3]; rw [t3 0 (by omega), t3 1 (by omega), t3 2 (by omega)]
        have n2 : num3 (((recL x).take c).drop 3) = num3 ((recL x).drop 3) := by
          have d3 : ∀ j, j + 3 < c → (((recL x).take c).drop 3).getD j 0 = ((recL x).drop 3).getD j 0 := fun j hj => by simp [List.getD, List.getElem?_drop, show 3 + j < c by omega]
          simp only [num3]; rw [d3 0 (by omega), d3 1 (by omega), d3 2 (by omega)]
        rw [allL_torn (by omega) (by simp only [goodH] at g1 ⊢; rw [n1, n2]; exact g1) (by rw [n1, g2]; omega)]
        simp

end Go.Proofs.Ytdlkakkoaelemaa
