/- Plain facts on lists of numbers: a number's lowest bytes. Records and batches as plain lists of numbers: how they are laid, how they are read. Batches of entries as plain lists of numbers: how they are laid, how they are read; the one is the other's way back. -/
namespace Go.Proofs.YtgleblfkcdkaeaaDoor

section
/-- n's lowest k bytes, the highest first. -/
def low : Nat → Int → List Int
  | 0, _ => []
  | k + 1, n => n / 256 ^ k % 256 :: low k n

theorem length_low (n : Int) : ∀ k, (low k n).length = k
  | 0 => rfl
  | k + 1 => by simp [low, length_low n k]

theorem low_snoc (n : Int) : ∀ k, low (k + 1) n = low k (n / 256) ++ [n % 256]
  | 0 => by simp [low]
  | k + 1 => by
    have h := low_snoc n k
    have e : n / 256 ^ (k + 1) = n / 256 / 256 ^ k := by
      rw [Int.pow_succ, Int.mul_comm, Int.ediv_ediv_of_nonneg (by decide)]
    rw [low, h, e]
    simp [low]

theorem low_rng (n : Int) : ∀ k, ∀ x ∈ low k n, 0 ≤ x ∧ x ≤ 255
  | 0 => by simp [low]
  | k + 1 => by
    intro x hx
    simp only [low, List.mem_cons] at hx
    rcases hx with rfl | hx
    · omega
    · exact low_rng n k x hx

/-- How many bytes: a size brought into 0 .. 8. -/
def clampN (size : Int) : Nat := (max 0 (min size 8)).toNat

theorem clampN_le (size : Int) : clampN size ≤ 8 := by unfold clampN; omega

theorem clampN_cast (size : Int) : ((clampN size : Nat) : Int) = max 0 (min size 8) := by unfold clampN; omega
end

section
/-- All are bytes. -/
def Bytes (xs : List Int) : Prop := ∀ n ∈ xs, 0 ≤ n ∧ n ≤ 255

theorem Bytes.app {xs ys : List Int} (h : Bytes xs) (k : Bytes ys) : Bytes (xs ++ ys) := fun n hn => (List.mem_append.1 hn).elim (h n) (k n)
theorem Bytes.take {xs : List Int} (h : Bytes xs) (k : Nat) : Bytes (xs.take k) := fun n hn => h n (List.mem_of_mem_take hn)
theorem Bytes.drop {xs : List Int} (h : Bytes xs) (k : Nat) : Bytes (xs.drop k) := fun n hn => h n (List.mem_of_mem_drop hn)
theorem Bytes.low (k : Nat) (n : Int) : Bytes (low k n) := low_rng n k
theorem Bytes.tail {x : Int} {xs : List Int} (h : Bytes (x :: xs)) : Bytes xs := fun n hn => h n (by simp [hn])
theorem Bytes.head {x : Int} {xs : List Int} (h : Bytes (x :: xs)) : 0 ≤ x ∧ x ≤ 255 := h x (by simp)
theorem Bytes.cons {x : Int} {xs : List Int} (h : 0 ≤ x ∧ x ≤ 255) (k : Bytes xs) : Bytes (x :: xs) := fun n hn => by
  rcases List.mem_cons.1 hn with rfl | hn
  · exact h
  · exact k n hn
theorem Bytes.nil : Bytes [] := by simp [Bytes]

theorem low1 (n : Int) : low 1 n = [n % 256] := by simp [low]
theorem low2 (n : Int) : low 2 n = [n / 256 % 256, n % 256] := by simp [low]
theorem low3 (n : Int) : low 3 n = [n / 65536 % 256, n / 256 % 256, n % 256] := by simp [low]

/-- What stands ahead of a record of n bytes. -/
def headN (n : Int) : Int := n * 16777216 + (16777215 - n)
def headL (n : Nat) : List Int := low 3 n ++ low 3 (16777215 - n)
theorem length_headL (n : Nat) : (headL n).length = 6 := by simp [headL, length_low]
theorem low_join (j : Nat) (a : Int) : ∀ (k : Nat) (b : Int), 0 ≤ b → b < 256 ^ k → low (j + k) (a * 256 ^ k + b) = low j a ++ low k b
  | 0, b, h1, h2 => by
    have : b = 0 := by simp at h2; omega
    subst this
    simp [low]
  | k + 1, b, h1, h2 => by
    have h2' : b < 256 ^ k * 256 := by rw [← Int.pow_succ]; exact h2
    have ih := low_join j a k (b / 256) (by omega) (by omega)
    have e1 : (a * 256 ^ (k + 1) + b) / 256 = a * 256 ^ k + b / 256 := by
      rw [Int.pow_succ, ← Int.mul_assoc]; omega
    have e2 : (a * 256 ^ (k + 1) + b) % 256 = b % 256 := by
      rw [Int.pow_succ, ← Int.mul_assoc]; omega
    rw [← Nat.add_assoc, low_snoc, e1, e2, ih, low_snoc, List.append_assoc]
theorem headL_low (n : Nat) (h : n ≤ 16777215) : low 6 (headN n) = headL n :=
  low_join 3 (n : Int) 3 (16777215 - n) (by omega) (by omega)

def recL (x : List Int) : List Int := headL x.length ++ x
theorem length_recL (x : List Int) : (recL x).length = x.length + 6 := by simp [recL, length_headL]; omega
def rowL (l : List (List Int)) : List Int := l.flatMap recL

/-- A head: three bytes and three bytes. -/
def num3 (xs : List Int) : Int := xs.getD 0 0 * 65536 + xs.getD 1 0 * 256 + xs.getD 2 0
theorem num3_rng {xs : List Int} (h : Bytes xs) : 0 ≤ num3 xs ∧ num3 xs ≤ 16777215 := by
  have g : ∀ j, 0 ≤ xs.getD j 0 ∧ xs.getD j 0 ≤ 255 := fun j => by
    by_cases hj : j < xs.length
    · have e : xs.getD j 0 = xs[j] := by simp [List.getD, hj]
      rw [e]; exact h _ (List.getElem_mem hj)
    · simp [List.getD, hj]
  have := g 0; have := g 1; have := g 2
  unfold num3; omega

theorem num3_low (n : Int) (h : 0 ≤ n) (k : n ≤ 16777215) (ys : List Int) : num3 (low 3 n ++ ys) = n := by
  simp [num3, low3]; omega

/-- Is there a head that may be? -/
def goodH (xs : List Int) : Bool := decide (num3 xs + num3 (xs.drop 3) = 16777215 ∧ num3 xs ≤ 1048576)

/-- The records from the beginning on, where the last ends, is what is left torn? -/
def allL (xs : List Int) : List (List Int) × Nat × Bool :=
  if xs.length < 6 then ([], 0, true)
  else if goodH xs = false then ([], 0, false)
  else if xs.length < 6 + (num3 xs).toNat then ([], 0, true)
  else
    let r := allL (xs.drop (6 + (num3 xs).toNat))
    ((xs.drop 6).take (num3 xs).toNat :: r.1, 6 + (num3 xs).toNat + r.2.1, r.2.2)
termination_by xs.length
decreasing_by simp; omega

theorem allL_short {xs : List Int} (h : xs.length < 6) : allL xs = ([], 0, true) := by rw [allL, if_pos h]
theorem allL_bad {xs : List Int} (h : ¬ xs.length < 6) (k : goodH xs = false) : allL xs = ([], 0, false) := by rw [allL, if_neg h, if_pos k]
theorem allL_torn {xs : List Int} (h : ¬ xs.length < 6) (k : goodH xs = true) (m : xs.length < 6 + (num3 xs).toNat) : allL xs = ([], 0, true) := by rw [allL, if_neg h, if_neg (by simp [k]), if_pos m]
theorem allL_step {xs : List Int} (h : ¬ xs.length < 6) (k : goodH xs = true) (n : Nat) (hn : num3 xs = n) (m : ¬ xs.length < 6 + n) :
    allL xs = ((xs.drop 6).take n :: (allL (xs.drop (6 + n))).1, 6 + n + (allL (xs.drop (6 + n))).2.1, (allL (xs.drop (6 + n))).2.2) := by
  have e : (num3 xs).toNat = n := by omega
  rw [allL, if_neg h, if_neg (by simp [k]), if_neg (by rw [e]; exact m), e]

/-- What was gone through, and what is left. -/
def Gone (xs : List Int) (out : List (List Int)) (a : Nat) : Prop := a ≤ xs.length ∧ out.length ≤ a ∧ allL xs = (out ++ (allL (xs.drop a)).1, a + (allL (xs.drop a)).2.1, (allL (xs.drop a)).2.2)
theorem Gone.start (xs : List Int) : Gone xs [] 0 := ⟨by simp, by simp, by simp⟩
theorem Gone.stop {xs : List Int} {out : List (List Int)} {a : Nat} (h : Gone xs out a) {b : Bool} (k : allL (xs.drop a) = ([], 0, b)) : allL xs = (out, a, b) := by
  rw [h.2.2, k]; simp
theorem Gone.step {xs : List Int} {out : List (List Int)} {a n : Nat} (h : Gone xs out a) (h6 : ¬ (xs.drop a).length < 6) (k : goodH (xs.drop a) = true) (hn : num3 (xs.drop a) = n) (m : ¬ (xs.drop a).length < 6 + n) :
    Gone xs (out ++ [((xs.drop a).drop 6).take n]) (a + 6 + n) := by
  have e := allL_step h6 k n hn m
  simp only [List.length_drop] at m h6
  have h0 := h.2.1
  refine ⟨by omega, by simp; omega, ?_⟩
  rw [h.2.2, e, List.drop_drop]
  simp [Nat.add_assoc]

theorem goodH_rec (x : List Int) (h : x.length ≤ 1048576) (ys : List Int) : goodH (recL x ++ ys) = true ∧ num3 (recL x ++ ys) = (x.length : Int) := by
  have h1 : num3 (recL x ++ ys) = (x.length : Int) := by
    rw [recL, headL, List.append_assoc, List.append_assoc]; exact num3_low _ (by omega) (by omega) _
  have h2 : num3 ((recL x ++ ys).drop 3) = 16777215 - (x.length : Int) := by
    rw [recL, headL, List.append_assoc, List.append_assoc, List.drop_left' (by simp [length_low])]; exact num3_low _ (by omega) (by omega) _
  refine ⟨?_, h1⟩
  simp only [goodH, h1, h2, decide_eq_true_eq]
  omega

theorem allL_rec (x : List Int) (h : x.length ≤ 1048576) (ys : List Int) : allL (recL x ++ ys) = (x :: (allL ys).1, x.length + 6 + (allL ys).2.1, (allL ys).2.2) := by
  obtain ⟨h1, h2⟩ := goodH_rec x h ys
  have hl := length_recL x
  have e := allL_step (xs := recL x ++ ys) (by simp [hl]; omega) h1 x.length h2 (by simp [hl]; omega)
  have e2 : ((recL x ++ ys).drop 6).take x.length = x := by
    rw [recL, List.append_assoc, List.drop_left' (length_headL _), List.take_left]
  have e3 : (recL x ++ ys).drop (6 + x.length) = ys := List.drop_left' (by rw [hl]; omega)
  rw [e, e2, e3, Nat.add_comm 6]

theorem allL_row : ∀ (l : List (List Int)), (∀ x ∈ l, x.length ≤ 1048576) → allL (rowL l) = (l, (rowL l).length, true)
  | [], _ => by rw [rowL]; exact allL_short (by simp)
  | x :: l, h => by
    have := allL_row l (fun y hy => h y (by simp [hy]))
    show allL (recL x ++ rowL l) = _
    rw [allL_rec x (h x (by simp)), this]
    simp [rowL, length_recL]

theorem allL_cut : ∀ (l : List (List Int)), (∀ x ∈ l, x.length ≤ 1048576) → ∀ c, ∃ m, m ≤ l.length ∧ (allL ((rowL l).take c)).1 = l.take m ∧ (allL ((rowL l).take c)).2.1 ≤ c ∧ (allL ((rowL l).take c)).2.2 = true
  | [], _, c => ⟨0, by simp, by simp [rowL, allL_short]⟩
  | x :: l, h, c => by
    have hx := h x (by simp)
    have hl := length_recL x
    have er : rowL (x :: l) = recL x ++ rowL l := rfl
    by_cases hc : x.length + 6 ≤ c
    · obtain ⟨m, h1, h2, h3, h4⟩ := allL_cut l (fun y hy => h y (by simp [hy])) (c - (x.length + 6))
      have et : (rowL (x :: l)).take c = recL x ++ (rowL l).take (c - (x.length + 6)) := by
        rw [er, List.take_append, hl, List.take_of_length_le (by omega)]
      refine ⟨m + 1, by simp; omega, ?_⟩
      rw [et, allL_rec x hx]
      simp only
      refine ⟨by simp [h2], by omega, h4⟩
    · refine ⟨0, by omega, ?_⟩
      have et : (rowL (x :: l)).take c = (recL x).take c := by
        rw [er, List.take_append_of_le_length (by omega)]
      rw [et]
      have hlen : ((recL x).take c).length = c := by simp; omega
      by_cases h6 : c < 6
      · rw [allL_short (by omega)]; simp
      · obtain ⟨g1, g2⟩ := goodH_rec x hx []
        rw [List.append_nil] at g1 g2
        have t3 : ∀ j, j < c → ((recL x).take c).getD j 0 = (recL x).getD j 0 := fun j hj => by simp [List.getD, hj]
        have n1 : num3 ((recL x).take c) = num3 (recL x) := by
          simp only [num3]; rw [t3 0 (by omega), t3 1 (by omega), t3 2 (by omega)]
        have n2 : num3 (((recL x).take c).drop 3) = num3 ((recL x).drop 3) := by
          have d3 : ∀ j, j + 3 < c → (((recL x).take c).drop 3).getD j 0 = ((recL x).drop 3).getD j 0 := fun j hj => by simp [List.getD, List.getElem?_drop, show 3 + j < c by omega]
          simp only [num3]; rw [d3 0 (by omega), d3 1 (by omega), d3 2 (by omega)]
        rw [allL_torn (by omega) (by simp only [goodH] at g1 ⊢; rw [n1, n2]; exact g1) (by rw [n1, g2]; omega)]
        simp
end

section
structure Ent where
  k : List Int
  v : List Int
  g : Bool

def encE (e : Ent) : List Int := if e.g = true then 0 :: (e.k.length : Int) :: e.k else 1 :: (e.k.length : Int) :: (e.k ++ (low 2 e.v.length ++ e.v))
def batchL (l : List Ent) : List Int := low 2 l.length ++ l.flatMap encE
def fitsE (e : Ent) : Bool := decide (1 ≤ e.k.length ∧ e.k.length ≤ 255 ∧ (e.g = true ∨ e.v.length ≤ 4095))
def mayL (l : List Ent) : Bool := decide (l.length ≤ 8191) && l.all fitsE

theorem fitsE_iff (e : Ent) : fitsE e = true ↔ 1 ≤ e.k.length ∧ e.k.length ≤ 255 ∧ (e.g = true ∨ e.v.length ≤ 4095) := by simp [fitsE]
theorem mayL_iff (l : List Ent) : mayL l = true ↔ l.length ≤ 8191 ∧ ∀ e ∈ l, fitsE e = true := by simp [mayL]

theorem encE_length (e : Ent) (h : fitsE e = true) : (encE e).length ≤ 4354 := by
  obtain ⟨h1, h2, h3⟩ := (fitsE_iff e).1 h
  unfold encE
  split
  · simp; omega
  · rename_i hg
    have := h3.resolve_left hg
    simp [length_low]; omega
theorem flat_length : ∀ (l : List Ent), (∀ e ∈ l, fitsE e = true) → (l.flatMap encE).length ≤ 4354 * l.length
  | [], _ => by simp
  | e :: l, h => by
    have h1 := encE_length e (h e (by simp))
    have h2 := flat_length l (fun x hx => h x (by simp [hx]))
    simp only [List.flatMap_cons, List.length_append, List.length_cons]; omega
theorem batchL_length (l : List Ent) (h : mayL l = true) : (batchL l).length ≤ 40000000 := by
  obtain ⟨h1, h2⟩ := (mayL_iff l).1 h
  have := flat_length l h2
  simp only [batchL, List.length_append, length_low]; omega

def num1 (xs : List Int) : Int := xs.getD 0 0
def num2 (xs : List Int) : Int := xs.getD 0 0 * 256 + xs.getD 1 0
def takeN (k : Nat) (f : List Int → Int) (lo hi : Int) (xs : List Int) : Option (Int × List Int) := if xs.length < k ∨ f xs < lo ∨ hi < f xs then none else some (f xs, xs.drop k)
def takeT (n : Nat) (xs : List Int) : Option (List Int × List Int) := if xs.length < n then none else some (xs.take n, xs.drop n)
def parseE (xs : List Int) : Option (Ent × List Int) :=
  match takeN 1 num1 0 1 xs with
  | none => none
  | some (kd, r1) =>
    match takeN 1 num1 1 255 r1 with
    | none => none
    | some (kl, r2) =>
      match takeT kl.toNat r2 with
      | none => none
      | some (key, r3) =>
        if kd = 0 then some (⟨key, [], true⟩, r3)
        else
          match takeN 2 num2 0 4095 r3 with
          | none => none
          | some (vl, r4) =>
            match takeT vl.toNat r4 with
            | none => none
            | some (v, r5) => some (⟨key, v, false⟩, r5)
def parseN : Nat → List Int → Option (List Ent × List Int)
  | 0, xs => some ([], xs)
  | n + 1, xs =>
    match parseE xs with
    | none => none
    | some (e, r) =>
      match parseN n r with
      | none => none
      | some (es, r') => some (e :: es, r')
def entriesL (xs : List Int) : Option (List Ent) :=
  match takeN 2 num2 0 8191 xs with
  | none => none
  | some (n, r) =>
    match parseN n.toNat r with
    | some (es, []) => some es
    | _ => none

def norm (e : Ent) : Ent := if e.g = true then ⟨e.k, [], true⟩ else e

theorem takeT_app (xs ys : List Int) (n : Nat) (h : xs.length = n) : takeT n (xs ++ ys) = some (xs, ys) := by
  subst h
  simp [takeT]
theorem num2_low (n : Nat) (h : n ≤ 65535) (ys : List Int) : num2 (low 2 n ++ ys) = n := by
  rw [low2]; simp [num2]; omega

theorem parseE_enc (e : Ent) (h : fitsE e = true) (ys : List Int) : parseE (encE e ++ ys) = some (norm e, ys) := by
  obtain ⟨h1, h2, h3⟩ := (fitsE_iff e).1 h
  obtain ⟨k, v, g⟩ := e
  simp only at h1 h2 h3
  cases g with
  | true =>
    have a1 : takeN 1 num1 0 1 (0 :: (k.length : Int) :: (k ++ ys)) = some (0, (k.length : Int) :: (k ++ ys)) := by simp [takeN, num1]
    have a2 : takeN 1 num1 1 255 ((k.length : Int) :: (k ++ ys)) = some ((k.length : Int), k ++ ys) := by
      simp only [takeN, num1, List.getD_cons_zero, List.length_cons, List.drop_succ_cons, List.drop_zero]; rw [if_neg (by omega)]
    have a3 := takeT_app k ys ((k.length : Int)).toNat (by omega)
    simp only [encE, if_true, List.cons_append, parseE, a1, a2, a3, norm]
  | false =>
    have h4 : v.length ≤ 4095 := by simpa using h3
    have a1 : takeN 1 num1 0 1 (1 :: (k.length : Int) :: (k ++ (low 2 v.length ++ v) ++ ys)) = some (1, (k.length : Int) :: (k ++ (low 2 v.length ++ v) ++ ys)) := by simp [takeN, num1]
    have a2 : takeN 1 num1 1 255 ((k.length : Int) :: (k ++ (low 2 v.length ++ v) ++ ys)) = some ((k.length : Int), k ++ (low 2 v.length ++ v) ++ ys) := by
      simp only [takeN, num1, List.getD_cons_zero, List.length_cons, List.drop_succ_cons, List.drop_zero]; rw [if_neg (by omega)]
    have a3 : takeT ((k.length : Int)).toNat (k ++ (low 2 v.length ++ v) ++ ys) = some (k, low 2 v.length ++ (v ++ ys)) := by
      rw [List.append_assoc, List.append_assoc]; exact takeT_app _ _ _ (by omega)
    have a4 : takeN 2 num2 0 4095 (low 2 v.length ++ (v ++ ys)) = some ((v.length : Int), v ++ ys) := by
      rw [takeN, num2_low v.length (by omega), if_neg (by simp [length_low]; omega), List.drop_left' (by simp [length_low])]
    have a5 := takeT_app v ys ((v.length : Int)).toNat (by omega)
    simp only [encE, Bool.false_eq_true, if_false, List.cons_append, parseE, a1, a2, a3, a4, a5, norm, show ((1 : Int) = 0) = False by simp]

theorem parseN_enc : ∀ (l : List Ent), (∀ e ∈ l, fitsE e = true) → ∀ ys, parseN l.length (l.flatMap encE ++ ys) = some (l.map norm, ys)
  | [], _, ys => by simp [parseN]
  | e :: l, h, ys => by
    have h1 := parseE_enc e (h e (by simp)) (l.flatMap encE ++ ys)
    have h2 := parseN_enc l (fun x hx => h x (by simp [hx])) ys
    simp only [List.flatMap_cons, List.append_assoc, List.length_cons, parseN, h1, h2, List.map_cons]

theorem entries_batch (l : List Ent) (h : mayL l = true) : entriesL (batchL l) = some (l.map norm) := by
  obtain ⟨h1, h2⟩ := (mayL_iff l).1 h
  have a1 : takeN 2 num2 0 8191 (batchL l) = some ((l.length : Int), l.flatMap encE) := by
    rw [takeN, batchL, num2_low l.length (by omega), if_neg (by simp [length_low]; omega), List.drop_left' (by simp [length_low])]
  have a2 := parseN_enc l h2 []
  rw [List.append_nil] at a2
  simp only [entriesL, a1, Int.toNat_natCast, a2]

/-- One by one. -/
def sameE (a b : Ent) : Bool := a.k == b.k && a.g == b.g && (a.g || a.v == b.v)
def sameL : List Ent → List Ent → Bool
  | [], [] => true
  | a :: l, b :: m => sameE a b && sameL l m
  | _, _ => false

theorem sameE_iff (a b : Ent) : sameE a b = true ↔ norm a = norm b := by
  obtain ⟨k, v, g⟩ := a
  obtain ⟨k', v', g'⟩ := b
  cases g <;> cases g' <;> simp [sameE, norm]
theorem sameL_iff : ∀ (l m : List Ent), sameL l m = true ↔ l.map norm = m.map norm
  | [], [] => by simp [sameL]
  | [], _ :: _ => by simp [sameL]
  | _ :: _, [] => by simp [sameL]
  | a :: l, b :: m => by
    have := sameL_iff l m
    have := sameE_iff a b
    simp [sameL, *]
theorem norm_norm (e : Ent) : norm (norm e) = norm e := by
  obtain ⟨k, v, g⟩ := e
  cases g <;> simp [norm]
theorem sameL_norm (l : List Ent) : sameL l (l.map norm) = true := by
  rw [sameL_iff, List.map_map]
  exact List.map_congr_left (fun e _ => (norm_norm e).symm)
theorem sameL_refl (l : List Ent) : sameL l l = true := by rw [sameL_iff]
theorem encE_norm (e : Ent) : encE (norm e) = encE e := by
  obtain ⟨k, v, g⟩ := e
  cases g <;> simp [encE, norm]
theorem batchL_norm (l : List Ent) : batchL (l.map norm) = batchL l := by
  simp only [batchL, List.length_map]
  congr 1
  induction l with
  | nil => rfl
  | cons e l ih => simp [encE_norm, ih]
theorem batch_inj (p q : List Ent) (h : mayL p = true) (k : mayL q = true) : (batchL p = batchL q) ↔ sameL p q = true := by
  rw [sameL_iff]
  refine ⟨fun e => ?_, fun e => ?_⟩
  · have a := entries_batch p h
    have b := entries_batch q k
    rw [e, b] at a
    exact (Option.some.inj a).symm
  · rw [← batchL_norm p, e, batchL_norm]

theorem sameL_length : ∀ (l m : List Ent), sameL l m = true → l.length = m.length
  | [], [], _ => rfl
  | a :: l, b :: m, h => by
    simp [sameL] at h
    simp [sameL_length l m h.2]
  | [], _ :: _, h => by simp [sameL] at h
  | _ :: _, [], h => by simp [sameL] at h

/-- How far the reading of n entries has come: es are read, r is left. -/
def Came (n : Nat) (r0 : List Int) (i : Nat) (es : List Ent) (r : List Int) : Prop :=
  i ≤ n ∧ es.length = i ∧ parseN n r0 = (match parseN (n - i) r with | none => none | some (fs, r') => some (es ++ fs, r'))
theorem Came.start (n : Nat) (r : List Int) : Came n r 0 [] r := by
  refine ⟨by omega, rfl, ?_⟩
  rw [Nat.sub_zero]
  cases parseN n r with
  | none => rfl
  | some p => rfl
theorem Came.no {n i : Nat} {r0 r : List Int} {es : List Ent} (h : Came n r0 i es r) (hi : i < n) (k : parseE r = none) : parseN n r0 = none := by
  obtain ⟨h1, h2, h3⟩ := h
  obtain ⟨m, hm⟩ : ∃ m, n - i = m + 1 := ⟨n - i - 1, by omega⟩
  rw [h3, hm, parseN, k]
theorem Came.step {n i : Nat} {r0 r r' : List Int} {es : List Ent} {e : Ent} (h : Came n r0 i es r) (hi : i < n) (k : parseE r = some (e, r')) : Came n r0 (i + 1) (es ++ [e]) r' := by
  obtain ⟨h1, h2, h3⟩ := h
  obtain ⟨m, hm⟩ : ∃ m, n - i = m + 1 := ⟨n - i - 1, by omega⟩
  refine ⟨by omega, by simp [h2], ?_⟩
  rw [h3, hm, parseN, k, show n - (i + 1) = m by omega]
  simp only
  cases parseN m r' with
  | none => rfl
  | some p => simp
theorem Came.done {n i : Nat} {r0 r : List Int} {es : List Ent} (h : Came n r0 i es r) (hi : ¬ i < n) : parseN n r0 = some (es, r) := by
  obtain ⟨h1, h2, h3⟩ := h
  rw [h3, show n - i = 0 by omega, parseN]
  simp
end

end Go.Proofs.YtgleblfkcdkaeaaDoor
