/- Plain facts on lists of numbers: a number's lowest bytes. Records and batches as plain lists of numbers: how they are laid, how they are read. Batches of entries as plain lists of numbers: how they are laid, how they are read; the one is the other's way back. Plain facts on lists of numbers: a number's lowest bytes, what two lists share, which stands ahead, which comes next. Blocks as plain lists of numbers: how they are laid, how they are read; the one is the other's way back. Entries put in order, and sought: plain facts. -/
namespace Go.Proofs.Yteeemfohehpaeaa

section
set_option maxRecDepth 100000

/-- n's lowest k bytes, the highest first. -/
def low : Nat → Int → List Int
  | 0, _ => []
  | k + 1, n => n / 256 ^ k % 256 :: low k n

theorem length_low (n : Int) : ∀ k, (low k n).length = k
  | 0 => rfl
  | k + 1 => by simp [low, length_low n k]

theorem low_snoc (n : Int) : ∀ k, low (k + 1) n = low k (n / 256) ++ [n % 256]
  | 0 => by simp [low]
  | k + 1 => by
    have h := low_snoc n k
    have e : n / 256 ^ (k + 1) = n / 256 / 256 ^ k := by
      rw [Int.pow_succ, Int.mul_comm, Int.ediv_ediv_of_nonneg (by decide)]
    rw [low, h, e]
    simp [low]

theorem low_rng (n : Int) : ∀ k, ∀ x ∈ low k n, 0 ≤ x ∧ x ≤ 255
  | 0 => by simp [low]
  | k + 1 => by
    intro x hx
    simp only [low, List.mem_cons] at hx
    rcases hx with rfl | hx
    · omega
    · exact low_rng n k x hx

/-- How many bytes: a size brought into 0 .. 8. -/
def clampN (size : Int) : Nat := (max 0 (min size 8)).toNat

theorem clampN_le (size : Int) : clampN size ≤ 8 := by unfold clampN; omega

theorem clampN_cast (size : Int) : ((clampN size : Nat) : Int) = max 0 (min size 8) := by unfold clampN; omega
end

section
set_option maxRecDepth 100000

/-- All are bytes. -/
def Bytes (xs : List Int) : Prop := ∀ n ∈ xs, 0 ≤ n ∧ n ≤ 255

theorem Bytes.app {xs ys : List Int} (h : Bytes xs) (k : Bytes ys) : Bytes (xs ++ ys) := fun n hn => (List.mem_append.1 hn).elim (h n) (k n)
theorem Bytes.take {xs : List Int} (h : Bytes xs) (k : Nat) : Bytes (xs.take k) := fun n hn => h n (List.mem_of_mem_take hn)
theorem Bytes.drop {xs : List Int} (h : Bytes xs) (k : Nat) : Bytes (xs.drop k) := fun n hn => h n (List.mem_of_mem_drop hn)
theorem Bytes.low (k : Nat) (n : Int) : Bytes (low k n) := low_rng n k
theorem Bytes.tail {x : Int} {xs : List Int} (h : Bytes (x :: xs)) : Bytes xs := fun n hn => h n (by simp [hn])
theorem Bytes.head {x : Int} {xs : List Int} (h : Bytes (x :: xs)) : 0 ≤ x ∧ x ≤ 255 := h x (by simp)
theorem Bytes.cons {x : Int} {xs : List Int} (h : 0 ≤ x ∧ x ≤ 255) (k : Bytes xs) : Bytes (x :: xs) := fun n hn => by
  rcases List.mem_cons.1 hn with rfl | hn
  · exact h
  · exact k n hn
theorem Bytes.nil : Bytes [] := by simp [Bytes]

theorem low1 (n : Int) : low 1 n = [n % 256] := by simp [low]
theorem low2 (n : Int) : low 2 n = [n / 256 % 256, n % 256] := by simp [low]
theorem low3 (n : Int) : low 3 n = [n / 65536 % 256, n / 256 % 256, n % 256] := by simp [low]

/-- What stands ahead of a record of n bytes. -/
def headN (n : Int) : Int := n * 16777216 + (16777215 - n)
def headL (n : Nat) : List Int := low 3 n ++ low 3 (16777215 - n)
theorem length_headL (n : Nat) : (headL n).length = 6 := by simp [headL, length_low]
theorem low_join (j : Nat) (a : Int) : ∀ (k : Nat) (b : Int), 0 ≤ b → b < 256 ^ k → low (j + k) (a * 256 ^ k + b) = low j a ++ low k b
  | 0, b, h1, h2 => by
    have : b = 0 := by simp at h2; omega
    subst this
    simp [low]
  | k + 1, b, h1, h2 => by
    have h2' : b < 256 ^ k * 256 := by rw [← Int.pow_succ]; exact h2
    have ih := low_join j a k (b / 256) (by omega) (by omega)
    have e1 : (a * 256 ^ (k + 1) + b) / 256 = a * 256 ^ k + b / 256 := by
      rw [Int.pow_succ, ← Int.mul_assoc]; omega
    have e2 : (a * 256 ^ (k + 1) + b) % 256 = b % 256 := by
      rw [Int.pow_succ, ← Int.mul_assoc]; omega
    rw [← Nat.add_assoc, low_snoc, e1, e2, ih, low_snoc, List.append_assoc]
theorem headL_low (n : Nat) (h : n ≤ 16777215) : low 6 (headN n) = headL n :=
  low_join 3 (n : Int) 3 (16777215 - n) (by omega) (by omega)

def recL (x : List Int) : List Int := headL x.length ++ x
theorem length_recL (x : List Int) : (recL x).length = x.length + 6 := by simp [recL, length_headL]; omega
def rowL (l : List (List Int)) : List Int := l.flatMap recL

/-- A head: three bytes and three bytes. -/
def num3 (xs : List Int) : Int := xs.getD 0 0 * 65536 + xs.getD 1 0 * 256 + xs.getD 2 0
theorem num3_rng {xs : List Int} (h : Bytes xs) : 0 ≤ num3 xs ∧ num3 xs ≤ 16777215 := by
  have g : ∀ j, 0 ≤ xs.getD j 0 ∧ xs.getD j 0 ≤ 255 := fun j => by
    by_cases hj : j < xs.length
    · have e : xs.getD j 0 = xs[j] := by simp [List.getD, hj]
      rw [e]; exact h _ (List.getElem_mem hj)
    · simp [List.getD, hj]
  have := g 0; have := g 1; have := g 2
  unfold num3; omega

theorem num3_low (n : Int) (h : 0 ≤ n) (k : n ≤ 16777215) (ys : List Int) : num3 (low 3 n ++ ys) = n := by
  simp [num3, low3]; omega

/-- Is there a head that may be? -/
def goodH (xs : List Int) : Bool := decide (num3 xs + num3 (xs.drop 3) = 16777215 ∧ num3 xs ≤ 1048576)

/-- The records from the beginning on, where the last ends, is what is left torn? -/
def allL (xs : List Int) : List (List Int) × Nat × Bool :=
  if xs.length < 6 then ([], 0, true)
  else if goodH xs = false then ([], 0, false)
  else if xs.length < 6 + (num3 xs).toNat then ([], 0, true)
  else
    let r := allL (xs.drop (6 + (num3 xs).toNat))
    ((xs.drop 6).take (num3 xs).toNat :: r.1, 6 + (num3 xs).toNat + r.2.1, r.2.2)
termination_by xs.length
decreasing_by simp; omega

theorem allL_short {xs : List Int} (h : xs.length < 6) : allL xs = ([], 0, true) := by rw [allL, if_pos h]
theorem allL_bad {xs : List Int} (h : ¬ xs.length < 6) (k : goodH xs = false) : allL xs = ([], 0, false) := by rw [allL, if_neg h, if_pos k]
theorem allL_torn {xs : List Int} (h : ¬ xs.length < 6) (k : goodH xs = true) (m : xs.length < 6 + (num3 xs).toNat) : allL xs = ([], 0, true) := by rw [allL, if_neg h, if_neg (by simp [k]), if_pos m]
theorem allL_step {xs : List Int} (h : ¬ xs.length < 6) (k : goodH xs = true) (n : Nat) (hn : num3 xs = n) (m : ¬ xs.length < 6 + n) :
    allL xs = ((xs.drop 6).take n :: (allL (xs.drop (6 + n))).1, 6 + n + (allL (xs.drop (6 + n))).2.1, (allL (xs.drop (6 + n))).2.2) := by
  have e : (num3 xs).toNat = n := by omega
  rw [allL, if_neg h, if_neg (by simp [k]), if_neg (by rw [e]; exact m), e]

/-- What was gone through, and what is left. -/
def Gone (xs : List Int) (out : List (List Int)) (a : Nat) : Prop := a ≤ xs.length ∧ out.length ≤ a ∧ allL xs = (out ++ (allL (xs.drop a)).1, a + (allL (xs.drop a)).2.1, (allL (xs.drop a)).2.2)
theorem Gone.start (xs : List Int) : Gone xs [] 0 := ⟨by simp, by simp, by simp⟩
theorem Gone.stop {xs : List Int} {out : List (List Int)} {a : Nat} (h : Gone xs out a) {b : Bool} (k : allL (xs.drop a) = ([], 0, b)) : allL xs = (out, a, b) := by
  rw [h.2.2, k]; simp
theorem Gone.step {xs : List Int} {out : List (List Int)} {a n : Nat} (h : Gone xs out a) (h6 : ¬ (xs.drop a).length < 6) (k : goodH (xs.drop a) = true) (hn : num3 (xs.drop a) = n) (m : ¬ (xs.drop a).length < 6 + n) :
    Gone xs (out ++ [((xs.drop a).drop 6).take n]) (a + 6 + n) := by
  have e := allL_step h6 k n hn m
  simp only [List.length_drop] at m h6
  have h0 := h.2.1
  refine ⟨by omega, by simp; omega, ?_⟩
  rw [h.2.2, e, List.drop_drop]
  simp [Nat.add_assoc]

theorem goodH_rec (x : List Int) (h : x.length ≤ 1048576) (ys : List Int) : goodH (recL x ++ ys) = true ∧ num3 (recL x ++ ys) = (x.length : Int) := by
  have h1 : num3 (recL x ++ ys) = (x.length : Int) := by
    rw [recL, headL, List.append_assoc, List.append_assoc]; exact num3_low _ (by omega) (by omega) _
  have h2 : num3 ((recL x ++ ys).drop 3) = 16777215 - (x.length : Int) := by
    rw [recL, headL, List.append_assoc, List.append_assoc, List.drop_left' (by simp [length_low])]; exact num3_low _ (by omega) (by omega) _
  refine ⟨?_, h1⟩
  simp only [goodH, h1, h2, decide_eq_true_eq]
  omega

theorem allL_rec (x : List Int) (h : x.length ≤ 1048576) (ys : List Int) : allL (recL x ++ ys) = (x :: (allL ys).1, x.length + 6 + (allL ys).2.1, (allL ys).2.2) := by
  obtain ⟨h1, h2⟩ := goodH_rec x h ys
  have hl := length_recL x
  have e := allL_step (xs := recL x ++ ys) (by simp [hl]; omega) h1 x.length h2 (by simp [hl]; omega)
  have e2 : ((recL x ++ ys).drop 6).take x.length = x := by
    rw [recL, List.append_assoc, List.drop_left' (length_headL _), List.take_left]
  have e3 : (recL x ++ ys).drop (6 + x.length) = ys := List.drop_left' (by rw [hl]; omega)
  rw [e, e2, e3, Nat.add_comm 6]

theorem allL_row : ∀ (l : List (List Int)), (∀ x ∈ l, x.length ≤ 1048576) → allL (rowL l) = (l, (rowL l).length, true)
  | [], _ => by rw [rowL]; exact allL_short (by simp)
  | x :: l, h => by
    have := allL_row l (fun y hy => h y (by simp [hy]))
    show allL (recL x ++ rowL l) = _
    rw [allL_rec x (h x (by simp)), this]
    simp [rowL, length_recL]

theorem allL_cut : ∀ (l : List (List Int)), (∀ x ∈ l, x.length ≤ 1048576) → ∀ c, ∃ m, m ≤ l.length ∧ (allL ((rowL l).take c)).1 = l.take m ∧ (allL ((rowL l).take c)).2.1 ≤ c ∧ (allL ((rowL l).take c)).2.2 = true
  | [], _, c => ⟨0, by simp, by simp [rowL, allL_short]⟩
  | x :: l, h, c => by
    have hx := h x (by simp)
    have hl := length_recL x
    have er : rowL (x :: l) = recL x ++ rowL l := rfl
    by_cases hc : x.length + 6 ≤ c
    · obtain ⟨m, h1, h2, h3, h4⟩ := allL_cut l (fun y hy => h y (by simp [hy])) (c - (x.length + 6))
      have et : (rowL (x :: l)).take c = recL x ++ (rowL l).take (c - (x.length + 6)) := by
        rw [er, List.take_append, hl, List.take_of_length_le (by omega)]
      refine ⟨m + 1, by simp; omega, ?_⟩
      rw [et, allL_rec x hx]
      simp only
      refine ⟨by simp [h2], by omega, h4⟩
    · refine ⟨0, by omega, ?_⟩
      have et : (rowL (x :: l)).take c = (recL x).take c := by
        rw [er, List.take_append_of_le_length (by omega)]
      rw [et]
      have hlen : ((recL x).take c).length = c := by simp; omega
      by_cases h6 : c < 6
      · rw [allL_short (by omega)]; simp
      · obtain ⟨g1, g2⟩ := goodH_rec x hx []
        rw [List.append_nil] at g1 g2
        have t3 : ∀ j, j < c → ((recL x).take c).getD j 0 = (recL x).getD j 0 := fun j hj => by simp [List.getD, hj]
        have n1 : num3 ((recL x).take c) = num3 (recL x) := by
          simp only [num3]; rw [t3 0 (by omega), t3 1 (by omega), t3 2 (by omega)]
        have n2 : num3 (((recL x).take c).drop 3) = num3 ((recL x).drop 3) := by
          have d3 : ∀ j, j + 3 < c → (((recL x).take c).drop 3).getD j 0 = ((recL x).drop 3).getD j 0 := fun j hj => by simp [List.getD, List.getElem?_drop, show 3 + j < c by omega]
          simp only [num3]; rw [d3 0 (by omega), d3 1 (by omega), d3 2 (by omega)]
        rw [allL_torn (by omega) (by simp only [goodH] at g1 ⊢; rw [n1, n2]; exact g1) (by rw [n1, g2]; omega)]
        simp
end

section
set_option maxRecDepth 100000

structure Ent where
  k : List Int
  v : List Int
  g : Bool

def encE (e : Ent) : List Int := if e.g = true then 0 :: (e.k.length : Int) :: e.k else 1 :: (e.k.length : Int) :: (e.k ++ (low 2 e.v.length ++ e.v))
def batchL (l : List Ent) : List Int := low 2 l.length ++ l.flatMap encE
def fitsE (e : Ent) : Bool := decide (1 ≤ e.k.length ∧ e.k.length ≤ 255 ∧ (e.g = true ∨ e.v.length ≤ 4095))
def mayL (l : List Ent) : Bool := decide (l.length ≤ 8191) && l.all fitsE

theorem fitsE_iff (e : Ent) : fitsE e = true ↔ 1 ≤ e.k.length ∧ e.k.length ≤ 255 ∧ (e.g = true ∨ e.v.length ≤ 4095) := by simp [fitsE]
theorem mayL_iff (l : List Ent) : mayL l = true ↔ l.length ≤ 8191 ∧ ∀ e ∈ l, fitsE e = true := by simp [mayL]

theorem encE_length (e : Ent) (h : fitsE e = true) : (encE e).length ≤ 4354 := by
  obtain ⟨h1, h2, h3⟩ := (fitsE_iff e).1 h
  unfold encE
  split
  · simp; omega
  · rename_i hg
    have := h3.resolve_left hg
    simp [length_low]; omega
theorem flat_length : ∀ (l : List Ent), (∀ e ∈ l, fitsE e = true) → (l.flatMap encE).length ≤ 4354 * l.length
  | [], _ => by simp
  | e :: l, h => by
    have h1 := encE_length e (h e (by simp))
    have h2 := flat_length l (fun x hx => h x (by simp [hx]))
    simp only [List.flatMap_cons, List.length_append, List.length_cons]; omega
theorem batchL_length (l : List Ent) (h : mayL l = true) : (batchL l).length ≤ 40000000 := by
  obtain ⟨h1, h2⟩ := (mayL_iff l).1 h
  have := flat_length l h2
  simp only [batchL, List.length_append, length_low]; omega

def num1 (xs : List Int) : Int := xs.getD 0 0
def num2 (xs : List Int) : Int := xs.getD 0 0 * 256 + xs.getD 1 0
def takeN (k : Nat) (f : List Int → Int) (lo hi : Int) (xs : List Int) : Option (Int × List Int) := if xs.length < k ∨ f xs < lo ∨ hi < f xs then none else some (f xs, xs.drop k)
def takeT (n : Nat) (xs : List Int) : Option (List Int × List Int) := if xs.length < n then none else some (xs.take n, xs.drop n)
def parseE (xs : List Int) : Option (Ent × List Int) :=
  match takeN 1 num1 0 1 xs with
  | none => none
  | some (kd, r1) =>
    match takeN 1 num1 1 255 r1 with
    | none => none
    | some (kl, r2) =>
      match takeT kl.toNat r2 with
      | none => none
      | some (key, r3) =>
        if kd = 0 then some (⟨key, [], true⟩, r3)
        else
          match takeN 2 num2 0 4095 r3 with
          | none => none
          | some (vl, r4) =>
            match takeT vl.toNat r4 with
            | none => none
            | some (v, r5) => some (⟨key, v, false⟩, r5)
def parseN : Nat → List Int → Option (List Ent × List Int)
  | 0, xs => some ([], xs)
  | n + 1, xs =>
    match parseE xs with
    | none => none
    | some (e, r) =>
      match parseN n r with
      | none => none
      | some (es, r') => some (e :: es, r')
def entriesL (xs : List Int) : Option (List Ent) :=
  match takeN 2 num2 0 8191 xs with
  | none => none
  | some (n, r) =>
    match parseN n.toNat r with
    | some (es, []) => some es
    | _ => none

def norm (e : Ent) : Ent := if e.g = true then ⟨e.k, [], true⟩ else e

theorem takeT_app (xs ys : List Int) (n : Nat) (h : xs.length = n) : takeT n (xs ++ ys) = some (xs, ys) := by
  subst h
  simp [takeT]
theorem num2_low (n : Nat) (h : n ≤ 65535) (ys : List Int) : num2 (low 2 n ++ ys) = n := by
  rw [low2]; simp [num2]; omega

theorem parseE_enc (e : Ent) (h : fitsE e = true) (ys : List Int) : parseE (encE e ++ ys) = some (norm e, ys) := by
  obtain ⟨h1, h2, h3⟩ := (fitsE_iff e).1 h
  obtain ⟨k, v, g⟩ := e
  simp only at h1 h2 h3
  cases g with
  | true =>
    have a1 : takeN 1 num1 0 1 (0 :: (k.length : Int) :: (k ++ ys)) = some (0, (k.length : Int) :: (k ++ ys)) := by simp [takeN, num1]
    have a2 : takeN 1 num1 1 255 ((k.length : Int) :: (k ++ ys)) = some ((k.length : Int), k ++ ys) := by
      simp only [takeN, num1, List.getD_cons_zero, List.length_cons, List.drop_succ_cons, List.drop_zero]; rw [if_neg (by omega)]
    have a3 := takeT_app k ys ((k.length : Int)).toNat (by omega)
    simp only [encE, if_true, List.cons_append, parseE, a1, a2, a3, norm]
  | false =>
    have h4 : v.length ≤ 4095 := by simpa using h3
    have a1 : takeN 1 num1 0 1 (1 :: (k.length : Int) :: (k ++ (low 2 v.length ++ v) ++ ys)) = some (1, (k.length : Int) :: (k ++ (low 2 v.length ++ v) ++ ys)) := by simp [takeN, num1]
    have a2 : takeN 1 num1 1 255 ((k.length : Int) :: (k ++ (low 2 v.length ++ v) ++ ys)) = some ((k.length : Int), k ++ (low 2 v.length ++ v) ++ ys) := by
      simp only [takeN, num1, List.getD_cons_zero, List.length_cons, List.drop_succ_cons, List.drop_zero]; rw [if_neg (by omega)]
    have a3 : takeT ((k.length : Int)).toNat (k ++ (low 2 v.length ++ v) ++ ys) = some (k, low 2 v.length ++ (v ++ ys)) := by
      rw [List.append_assoc, List.append_assoc]; exact takeT_app _ _ _ (by omega)
    have a4 : takeN 2 num2 0 4095 (low 2 v.length ++ (v ++ ys)) = some ((v.length : Int), v ++ ys) := by
      rw [takeN, num2_low v.length (by omega), if_neg (by simp [length_low]; omega), List.drop_left' (by simp [length_low])]
    have a5 := takeT_app v ys ((v.length : Int)).toNat (by omega)
    simp only [encE, Bool.false_eq_true, if_false, List.cons_append, parseE, a1, a2, a3, a4, a5, norm, show ((1 : Int) = 0) = False by simp]

theorem parseN_enc : ∀ (l : List Ent), (∀ e ∈ l, fitsE e = true) → ∀ ys, parseN l.length (l.flatMap encE ++ ys) = some (l.map norm, ys)
  | [], _, ys => by simp [parseN]
  | e :: l, h, ys => by
    have h1 := parseE_enc e (h e (by simp)) (l.flatMap encE ++ ys)
    have h2 := parseN_enc l (fun x hx => h x (by simp [hx])) ys
    simp only [List.flatMap_cons, List.append_assoc, List.length_cons, parseN, h1, h2, List.map_cons]

theorem entries_batch (l : List Ent) (h : mayL l = true) : entriesL (batchL l) = some (l.map norm) := by
  obtain ⟨h1, h2⟩ := (mayL_iff l).1 h
  have a1 : takeN 2 num2 0 8191 (batchL l) = some ((l.length : Int), l.flatMap encE) := by
    rw [takeN, batchL, num2_low l.length (by omega), if_neg (by simp [length_low]; omega), List.drop_left' (by simp [length_low])]
  have a2 := parseN_enc l h2 []
  rw [List.append_nil] at a2
  simp only [entriesL, a1, Int.toNat_natCast, a2]

/-- One by one. -/
def sameE (a b : Ent) : Bool := a.k == b.k && a.g == b.g && (a.g || a.v == b.v)
def sameL : List Ent → List Ent → Bool
  | [], [] => true
  | a :: l, b :: m => sameE a b && sameL l m
  | _, _ => false

theorem sameE_iff (a b : Ent) : sameE a b = true ↔ norm a = norm b := by
  obtain ⟨k, v, g⟩ := a
  obtain ⟨k', v', g'⟩ := b
  cases g <;> cases g' <;> simp [sameE, norm]
theorem sameL_iff : ∀ (l m : List Ent), sameL l m = true ↔ l.map norm = m.map norm
  | [], [] => by simp [sameL]
  | [], _ :: _ => by simp [sameL]
  | _ :: _, [] => by simp [sameL]
  | a :: l, b :: m => by
    have := sameL_iff l m
    have := sameE_iff a b
    simp [sameL, *]
theorem norm_norm (e : Ent) : norm (norm e) = norm e := by
  obtain ⟨k, v, g⟩ := e
  cases g <;> simp [norm]
theorem sameL_norm (l : List Ent) : sameL l (l.map norm) = true := by
  rw [sameL_iff, List.map_map]
  exact List.map_congr_left (fun e _ => (norm_norm e).symm)
theorem sameL_refl (l : List Ent) : sameL l l = true := by rw [sameL_iff]
theorem encE_norm (e : Ent) : encE (norm e) = encE e := by
  obtain ⟨k, v, g⟩ := e
  cases g <;> simp [encE, norm]
theorem batchL_norm (l : List Ent) : batchL (l.map norm) = batchL l := by
  simp only [batchL, List.length_map]
  congr 1
  induction l with
  | nil => rfl
  | cons e l ih => simp [encE_norm, ih]
theorem batch_inj (p q : List Ent) (h : mayL p = true) (k : mayL q = true) : (batchL p = batchL q) ↔ sameL p q = true := by
  rw [sameL_iff]
  refine ⟨fun e => ?_, fun e => ?_⟩
  · have a := entries_batch p h
    have b := entries_batch q k
    rw [e, b] at a
    exact (Option.some.inj a).symm
  · rw [← batchL_norm p, e, batchL_norm]

theorem sameL_length : ∀ (l m : List Ent), sameL l m = true → l.length = m.length
  | [], [], _ => rfl
  | a :: l, b :: m, h => by
    simp [sameL] at h
    simp [sameL_length l m h.2]
  | [], _ :: _, h => by simp [sameL] at h
  | _ :: _, [], h => by simp [sameL] at h

/-- How far the reading of n entries has come: es are read, r is left. -/
def Came (n : Nat) (r0 : List Int) (i : Nat) (es : List Ent) (r : List Int) : Prop :=
  i ≤ n ∧ es.length = i ∧ parseN n r0 = (match parseN (n - i) r with | none => none | some (fs, r') => some (es ++ fs, r'))
theorem Came.start (n : Nat) (r : List Int) : Came n r 0 [] r := by
  refine ⟨by omega, rfl, ?_⟩
  rw [Nat.sub_zero]
  cases parseN n r with
  | none => rfl
  | some p => rfl
theorem Came.no {n i : Nat} {r0 r : List Int} {es : List Ent} (h : Came n r0 i es r) (hi : i < n) (k : parseE r = none) : parseN n r0 = none := by
  obtain ⟨h1, h2, h3⟩ := h
  obtain ⟨m, hm⟩ : ∃ m, n - i = m + 1 := ⟨n - i - 1, by omega⟩
  rw [h3, hm, parseN, k]
theorem Came.step {n i : Nat} {r0 r r' : List Int} {es : List Ent} {e : Ent} (h : Came n r0 i es r) (hi : i < n) (k : parseE r = some (e, r')) : Came n r0 (i + 1) (es ++ [e]) r' := by
  obtain ⟨h1, h2, h3⟩ := h
  obtain ⟨m, hm⟩ : ∃ m, n - i = m + 1 := ⟨n - i - 1, by omega⟩
  refine ⟨by omega, by simp [h2], ?_⟩
  rw [h3, hm, parseN, k, show n - (i + 1) = m by omega]
  simp only
  cases parseN m r' with
  | none => rfl
  | some p => simp
theorem Came.done {n i : Nat} {r0 r : List Int} {es : List Ent} (h : Came n r0 i es r) (hi : ¬ i < n) : parseN n r0 = some (es, r) := by
  obtain ⟨h1, h2, h3⟩ := h
  rw [h3, show n - i = 0 by omega, parseN]
  simp
end

section
set_option maxRecDepth 100000

/-- How many from the beginning on are the same. -/
def shared : List Int → List Int → Nat
  | x :: xs, y :: ys => if x = y then shared xs ys + 1 else 0
  | [], _ => 0
  | _ :: _, [] => 0

theorem shared_eq : ∀ (xs ys : List Int) (k : Nat), k ≤ xs.length → k ≤ ys.length → (∀ j, j < k → xs.getD j 0 = ys.getD j 0) →
    (k = xs.length ∨ k = ys.length ∨ xs.getD k 0 ≠ ys.getD k 0) → shared xs ys = k
  | [], ys, k, h1, _, _, _ => by simp at h1; subst h1; simp [shared]
  | x :: xs, [], k, _, h2, _, _ => by simp at h2; subst h2; simp [shared]
  | x :: xs, y :: ys, 0, _, _, _, h => by
    simp at h
    simp [shared, h]
  | x :: xs, y :: ys, k + 1, h1, h2, h3, h4 => by
    have e : x = y := by simpa using h3 0 (by omega)
    have := shared_eq xs ys k (by simpa using h1) (by simpa using h2) (fun j hj => by simpa using h3 (j + 1) (by omega)) (by simpa using h4)
    simp [shared, e, this]

theorem shared_le : ∀ (xs ys : List Int), shared xs ys ≤ xs.length ∧ shared xs ys ≤ ys.length
  | [], ys => by simp [shared]
  | x :: xs, [] => by simp [shared]
  | x :: xs, y :: ys => by
    have := shared_le xs ys
    simp only [shared, List.length_cons]
    split <;> omega

/-- Does xs stand ahead of ys? -/
def lessB : List Int → List Int → Bool
  | _, [] => false
  | [], _ :: _ => true
  | x :: xs, y :: ys => decide (x < y) || (x == y && lessB xs ys)

theorem lessB_end : ∀ (xs ys : List Int), shared xs ys = xs.length ∨ shared xs ys = ys.length → lessB xs ys = decide (xs.length < ys.length)
  | [], [], _ => by simp [lessB]
  | [], y :: ys, _ => by simp [lessB]
  | x :: xs, [], _ => by simp [lessB]
  | x :: xs, y :: ys, h => by
    by_cases e : x = y
    · subst e
      have := lessB_end xs ys (by simpa [shared] using h)
      simp [lessB, this]
    · simp [shared, e] at h

theorem lessB_at : ∀ (xs ys : List Int), shared xs ys ≠ xs.length → shared xs ys ≠ ys.length → lessB xs ys = decide (xs.getD (shared xs ys) 0 < ys.getD (shared xs ys) 0)
  | [], ys, h, _ => by simp [shared] at h
  | x :: xs, [], _, h => by simp [shared] at h
  | x :: xs, y :: ys, h1, h2 => by
    by_cases e : x = y
    · subst e
      have := lessB_at xs ys (by simpa [shared] using h1) (by simpa [shared] using h2)
      simp [lessB, shared, this]
    · simp [lessB, shared, e]
end

section
set_option maxRecDepth 100000

theorem shared_take : ∀ (p k : List Int), p.take (shared p k) = k.take (shared p k)
  | [], k => by simp [shared]
  | x :: p, [] => by simp [shared]
  | x :: p, y :: k => by
    by_cases e : x = y
    · simp [shared, e, shared_take p k]
    · simp [shared, e]
theorem shared_nil (k : List Int) : shared [] k = 0 := by simp [shared]

/-- What stands behind an entry's Key. -/
def tailE (e : Ent) : List Int := if e.g = true then [0] else 1 :: (low 2 e.v.length ++ e.v)
/-- An entry, behind one whose Key is p. -/
def encB (p : List Int) (e : Ent) : List Int := (shared p e.k : Int) :: ((e.k.length - shared p e.k : Nat) : Int) :: (e.k.drop (shared p e.k) ++ tailE e)
def pre (i : Nat) (p : List Int) : List Int := if i % 4 = 0 then [] else p
def bodyL : Nat → List Int → List Ent → List Int
  | _, _, [] => []
  | i, p, e :: l => encB (pre i p) e ++ bodyL (i + 1) e.k l
def startL : Nat → Nat → List Int → List Ent → List Int
  | _, _, _, [] => []
  | i, o, p, e :: l => (if i % 4 = 0 then low 2 o else []) ++ startL (i + 1) (o + (encB (pre i p) e).length) e.k l
def fitB : Nat → Nat → List Int → List Ent → Bool
  | _, _, _, [] => true
  | i, o, p, e :: l => decide (i % 4 = 0 → o ≤ 65535) && fitB (i + 1) (o + (encB (pre i p) e).length) e.k l
def okL : List Int → List Ent → Bool
  | _, [] => true
  | p, e :: l => (fitsE e && lessB p e.k) && okL e.k l
def lastK : List Int → List Ent → List Int
  | p, [] => p
  | _, e :: l => lastK e.k l
def mayB (most : Nat) (l : List Ent) : Bool := decide (1 ≤ l.length ∧ l.length ≤ most) && okL [] l
def cntB (l : List Ent) : Nat := (l.length + 3) / 4
def blockL (l : List Ent) : List Int := bodyL 0 [] l ++ (startL 0 0 [] l ++ [(cntB l : Int)])

theorem lastK_snoc : ∀ (l : List Ent) (p : List Int) (e : Ent), lastK p (l ++ [e]) = e.k
  | [], _, _ => rfl
  | x :: l, _, e => lastK_snoc l x.k e
theorem bodyL_snoc : ∀ (l : List Ent) (i : Nat) (p : List Int) (e : Ent), bodyL i p (l ++ [e]) = bodyL i p l ++ encB (pre (i + l.length) (lastK p l)) e
  | [], i, p, e => by simp [bodyL, lastK]
  | x :: l, i, p, e => by
    have := bodyL_snoc l (i + 1) x.k e
    simp only [List.cons_append, bodyL, lastK, List.length_cons, this, List.append_assoc]
    rw [show i + 1 + l.length = i + (l.length + 1) by omega]
theorem startL_snoc : ∀ (l : List Ent) (i o : Nat) (p : List Int) (e : Ent), startL i o p (l ++ [e]) = startL i o p l ++ (if (i + l.length) % 4 = 0 then low 2 ((o + (bodyL i p l).length : Nat) : Int) else [])
  | [], i, o, p, e => by simp [startL, bodyL]
  | x :: l, i, o, p, e => by
    have := startL_snoc l (i + 1) (o + (encB (pre i p) x).length) x.k e
    simp only [List.cons_append, startL, bodyL, List.length_cons, List.length_append, this, List.append_assoc]
    rw [show i + 1 + l.length = i + (l.length + 1) by omega, show o + (encB (pre i p) x).length + (bodyL (i + 1) x.k l).length = o + ((encB (pre i p) x).length + (bodyL (i + 1) x.k l).length) by omega]
theorem fitB_snoc : ∀ (l : List Ent) (i o : Nat) (p : List Int) (e : Ent), fitB i o p (l ++ [e]) = (fitB i o p l && decide ((i + l.length) % 4 = 0 → o + (bodyL i p l).length ≤ 65535))
  | [], i, o, p, e => by simp only [List.nil_append, fitB, bodyL, List.length_nil, Nat.add_zero, Bool.and_true, Bool.true_and]; exact decide_eq_decide.2 Iff.rfl
  | x :: l, i, o, p, e => by
    have := fitB_snoc l (i + 1) (o + (encB (pre i p) x).length) x.k e
    simp only [List.cons_append, fitB, bodyL, List.length_cons, List.length_append, this, Bool.and_assoc]
    rw [show i + 1 + l.length = i + (l.length + 1) by omega, show o + (encB (pre i p) x).length + (bodyL (i + 1) x.k l).length = o + ((encB (pre i p) x).length + (bodyL (i + 1) x.k l).length) by omega]
theorem okL_snoc : ∀ (l : List Ent) (p : List Int) (e : Ent), okL p (l ++ [e]) = (okL p l && (fitsE e && lessB (lastK p l) e.k))
  | [], p, e => by simp [okL, lastK]
  | x :: l, p, e => by simp only [List.cons_append, okL, lastK, okL_snoc l x.k e, Bool.and_assoc]
theorem okL_app : ∀ (l m : List Ent) (p : List Int), okL p (l ++ m) = (okL p l && okL (lastK p l) m)
  | [], m, p => by simp [okL, lastK]
  | x :: l, m, p => by simp only [List.cons_append, okL, lastK, okL_app l m x.k, Bool.and_assoc]
theorem fitB_app : ∀ (l m : List Ent) (i o : Nat) (p : List Int), fitB i o p (l ++ m) = (fitB i o p l && fitB (i + l.length) (o + (bodyL i p l).length) (lastK p l) m)
  | [], m, i, o, p => by simp [fitB, lastK, bodyL]
  | x :: l, m, i, o, p => by
    simp only [List.cons_append, fitB, lastK, bodyL, List.length_cons, List.length_append, fitB_app l m, Bool.and_assoc]
    rw [show i + 1 + l.length = i + (l.length + 1) by omega, show o + (encB (pre i p) x).length + (bodyL (i + 1) x.k l).length = o + ((encB (pre i p) x).length + (bodyL (i + 1) x.k l).length) by omega]
theorem okL_fits : ∀ (l : List Ent) (p : List Int), okL p l = true → ∀ e ∈ l, fitsE e = true
  | [], _, _, _, h => by simp at h
  | x :: l, p, h, e, he => by
    simp only [okL, Bool.and_eq_true] at h
    rcases List.mem_cons.1 he with rfl | he
    · exact h.1.1
    · exact okL_fits l x.k h.2 e he

theorem encB_length (p : List Int) (e : Ent) : (encB p e).length = 2 + (e.k.length - shared p e.k) + (if e.g = true then 1 else 3 + e.v.length) := by
  have := (shared_le p e.k).2
  unfold encB tailE
  split <;> simp [length_low] <;> omega
theorem encB_le (p : List Int) (e : Ent) (h : fitsE e = true) : (encB p e).length ≤ 4360 := by
  obtain ⟨h1, h2, h3⟩ := (fitsE_iff e).1 h
  rw [encB_length]
  split
  · omega
  · rename_i hg
    have := h3.resolve_left hg
    omega
theorem bodyL_le : ∀ (l : List Ent) (i : Nat) (p : List Int), (∀ e ∈ l, fitsE e = true) → (bodyL i p l).length ≤ 4360 * l.length
  | [], _, _, _ => by simp [bodyL]
  | e :: l, i, p, h => by
    have h1 := encB_le (pre i p) e (h e (by simp))
    have h2 := bodyL_le l (i + 1) e.k (fun x hx => h x (by simp [hx]))
    simp only [bodyL, List.length_append, List.length_cons]; omega
theorem startL_len : ∀ (l : List Ent) (i o : Nat) (p : List Int), (startL i o p l).length = 2 * ((i + l.length + 3) / 4 - (i + 3) / 4)
  | [], i, o, p => by simp [startL]
  | e :: l, i, o, p => by
    have h := startL_len l (i + 1) (o + (encB (pre i p) e).length) e.k
    simp only [startL, List.length_append, h, List.length_cons]
    split
    · simp [length_low]; omega
    · simp; omega
theorem start_cnt (l : List Ent) : (startL 0 0 [] l).length = 2 * cntB l := by
  rw [startL_len]; simp [cntB]

/-- What is read. -/
def numB (k : Nat) (f : List Int → Int) (xs : List Int) : Option (Int × List Int) := if xs.length < k then none else some (f xs, xs.drop k)
def parseB (st : Bool) (p xs : List Int) : Option (Ent × List Int) :=
  match numB 1 num1 xs with
  | none => none
  | some (s, r1) =>
    if (p.length : Int) < s then none
    else
      match numB 1 num1 r1 with
      | none => none
      | some (m, r2) =>
        match takeT m.toNat r2 with
        | none => none
        | some (t, r3) =>
          match numB 1 num1 r3 with
          | none => none
          | some (kd, r4) =>
            if kd = 0 then some (⟨p.take s.toNat ++ t, [], true⟩, r4)
            else if st = true ∧ 1 < kd then none
            else
              match numB 2 num2 r4 with
              | none => none
              | some (vl, r5) =>
                match takeT vl.toNat r5 with
                | none => none
                | some (v, r6) => some (⟨p.take s.toNat ++ t, v, false⟩, r6)

theorem parseB_enc (st : Bool) (p q : List Int) (e : Ent) (h : fitsE e = true) (hq : shared p e.k ≤ q.length) (hq2 : q.take (shared p e.k) = e.k.take (shared p e.k)) (ys : List Int) : parseB st q (encB p e ++ ys) = some (norm e, ys) := by
  obtain ⟨h1, h2, h3⟩ := (fitsE_iff e).1 h
  have hs := (shared_le p e.k).2
  obtain ⟨k, v, g⟩ := e
  simp only at h1 h2 h3 hs hq hq2
  generalize hS : shared p k = s at hs hq hq2
  have b1 : ∀ (x : Int) (zs : List Int), numB 1 num1 (x :: zs) = some (x, zs) := fun x zs => by simp [numB, num1]
  have hk : q.take s ++ k.drop s = k := by rw [hq2, List.take_append_drop]
  have a2 : ∀ zs : List Int, takeT (k.length - s) (k.drop s ++ zs) = some (k.drop s, zs) := fun zs => takeT_app _ _ _ (by simp)
  have hs0 : ¬ (q.length : Int) < (s : Int) := by omega
  cases g with
  | true =>
    have e1 : encB p ⟨k, v, true⟩ ++ ys = (s : Int) :: ((k.length - s : Nat) : Int) :: (k.drop s ++ (0 :: ys)) := by simp [encB, tailE, hS]
    simp only [e1, parseB, b1, a2, if_neg hs0, if_true, Int.toNat_natCast, hk, norm]
  | false =>
    have h4 : v.length ≤ 4095 := by simpa using h3
    have e1 : encB p ⟨k, v, false⟩ ++ ys = (s : Int) :: ((k.length - s : Nat) : Int) :: (k.drop s ++ (1 :: (low 2 v.length ++ (v ++ ys)))) := by simp [encB, tailE, hS]
    have a4 : numB 2 num2 (low 2 v.length ++ (v ++ ys)) = some ((v.length : Int), v ++ ys) := by
      rw [numB, num2_low v.length (by omega), if_neg (by simp [length_low]), List.drop_left' (by simp [length_low])]
    have a5 := takeT_app v ys v.length rfl
    simp only [e1, parseB, b1, a2, if_neg hs0, Int.toNat_natCast, hk, norm, a4, a5, show ((1 : Int) = 0) = False by simp, if_false, show ¬ (st = true ∧ (1 : Int) < 1) by omega, Bool.false_eq_true]

theorem takeT_some {n : Nat} {xs t r : List Int} (h : takeT n xs = some (t, r)) : t = xs.take n ∧ r = xs.drop n ∧ ¬ xs.length < n := by
  unfold takeT at h
  split at h
  · cases h
  · cases h; exact ⟨rfl, rfl, by assumption⟩
theorem numB_some {k : Nat} {f : List Int → Int} {xs r : List Int} {v : Int} (h : numB k f xs = some (v, r)) : v = f xs ∧ r = xs.drop k ∧ ¬ xs.length < k := by
  unfold numB at h
  split at h
  · cases h
  · cases h; exact ⟨rfl, rfl, by assumption⟩
theorem parseB_norm {st : Bool} {p xs r : List Int} {e : Ent} (h : parseB st p xs = some (e, r)) : norm e = e ∧ r.length < xs.length := by
  unfold parseB at h
  split at h
  · cases h
  · rename_i s r1 h1
    obtain ⟨_, rfl, l1⟩ := numB_some h1
    split at h
    · cases h
    · split at h
      · cases h
      · rename_i m r2 h2
        obtain ⟨_, rfl, l2⟩ := numB_some h2
        split at h
        · cases h
        · rename_i t r3 h3
          obtain ⟨_, rfl, _⟩ := takeT_some h3
          split at h
          · cases h
          · rename_i kd r4 h4
            obtain ⟨_, rfl, _⟩ := numB_some h4
            split at h
            · cases h
              exact ⟨by simp [norm], by simp only [List.length_drop]; omega⟩
            · split at h
              · cases h
              · split at h
                · cases h
                · rename_i vl r5 h5
                  obtain ⟨_, rfl, _⟩ := numB_some h5
                  split at h
                  · cases h
                  · rename_i v r6 h6
                    obtain ⟨_, rfl, _⟩ := takeT_some h6
                    cases h
                    exact ⟨by simp [norm], by simp only [List.length_drop]; omega⟩

/-- The program's loop: i entries are read, n more may come. -/
def readB : Nat → Nat → List Int → List Int → Option (List Ent)
  | 0, _, _, xs => if xs.length = 0 then some [] else none
  | n + 1, i, p, xs => if xs.length = 0 then some [] else
    match parseB false (pre i p) xs with
    | none => none
    | some (e, r) => (readB n (i + 1) e.k r).map (e :: ·)
/-- The document's loop. -/
def rreadB : Nat → List Int → List Int → Option (List Ent)
  | 0, _, _ => some []
  | n + 1, p, xs => if xs.length = 0 then some [] else
    match parseB true p xs with
    | none => none
    | some (e, r) => (rreadB n e.k r).map (e :: ·)

theorem norm_k (e : Ent) : (norm e).k = e.k := by unfold norm; split <;> rfl
theorem encB_pos (p : List Int) (e : Ent) (ys : List Int) : ¬ (encB p e ++ ys).length = 0 := by simp [encB]
theorem pre_fit (i : Nat) (p q : List Int) (e : Ent) (h : q = p ∨ q = pre i p) : shared (pre i p) e.k ≤ q.length ∧ q.take (shared (pre i p) e.k) = e.k.take (shared (pre i p) e.k) := by
  by_cases hi : i % 4 = 0
  · have : pre i p = [] := by simp [pre, hi]
    rw [this, shared_nil]; simp
  · have hp : pre i p = p := by simp [pre, hi]
    rw [hp] at h ⊢
    have hq : q = p := by simpa using h
    subst hq
    exact ⟨(shared_le q e.k).1, shared_take q e.k⟩
theorem readB_body : ∀ (l : List Ent) (n i : Nat) (p : List Int), (∀ e ∈ l, fitsE e = true) → l.length ≤ n → readB n i p (bodyL i p l) = some (l.map norm)
  | [], n, i, p, _, _ => by cases n <;> simp [readB, bodyL]
  | e :: l, 0, i, p, _, h => by simp at h
  | e :: l, n + 1, i, p, hf, h => by
    have h1 := readB_body l n (i + 1) e.k (fun x hx => hf x (by simp [hx])) (by simpa using h)
    obtain ⟨q1, q2⟩ := pre_fit i p (pre i p) e (.inr rfl)
    have h2 := parseB_enc false (pre i p) (pre i p) e (hf e (by simp)) q1 q2 (bodyL (i + 1) e.k l)
    simp only [bodyL, readB, if_neg (encB_pos _ _ _), h2, norm_k, h1, Option.map_some, List.map_cons]
theorem rreadB_body : ∀ (l : List Ent) (n i : Nat) (p : List Int), (∀ e ∈ l, fitsE e = true) → l.length ≤ n → rreadB n p (bodyL i p l) = some (l.map norm)
  | [], n, i, p, _, _ => by cases n <;> simp [rreadB, bodyL]
  | e :: l, 0, i, p, _, h => by simp at h
  | e :: l, n + 1, i, p, hf, h => by
    have h1 := rreadB_body l n (i + 1) e.k (fun x hx => hf x (by simp [hx])) (by simpa using h)
    obtain ⟨q1, q2⟩ := pre_fit i p p e (.inl rfl)
    have h2 := parseB_enc true (pre i p) p e (hf e (by simp)) q1 q2 (bodyL (i + 1) e.k l)
    simp only [bodyL, rreadB, if_neg (encB_pos _ _ _), h2, norm_k, h1, Option.map_some, List.map_cons]
theorem readB_norm : ∀ (n i : Nat) (p xs : List Int) (l : List Ent), readB n i p xs = some l → l.map norm = l
  | 0, i, p, xs, l, h => by
    unfold readB at h
    split at h
    · cases h; rfl
    · cases h
  | n + 1, i, p, xs, l, h => by
    unfold readB at h
    split at h
    · cases h; rfl
    · split at h
      · cases h
      · rename_i e r h1
        cases h2 : readB n (i + 1) e.k r with
        | none => rw [h2] at h; cases h
        | some m =>
          rw [h2] at h
          cases h
          simp [readB_norm n _ _ _ m h2, (parseB_norm h1).1]
theorem rreadB_norm : ∀ (n : Nat) (p xs : List Int) (l : List Ent), rreadB n p xs = some l → l.map norm = l
  | 0, p, xs, l, h => by cases h; rfl
  | n + 1, p, xs, l, h => by
    unfold rreadB at h
    split at h
    · cases h; rfl
    · split at h
      · cases h
      · rename_i e r h1
        cases h2 : rreadB n e.k r with
        | none => rw [h2] at h; cases h
        | some m =>
          rw [h2] at h
          cases h
          simp [rreadB_norm n _ _ m h2, (parseB_norm h1).1]

/-- The last byte: how many beginnings there are. -/
def lastN (xs : List Int) : Nat := (xs.getD (xs.length - 1) 0).toNat
def partsL (xs : List Int) : Option (List Int × List Int) :=
  if xs.length < 1 ∨ xs.length - 1 < 2 * lastN xs then none else some (xs.take (xs.length - 1 - 2 * lastN xs), (xs.drop (xs.length - 1 - 2 * lastN xs)).take (2 * lastN xs))
def validB (l : List Ent) (xs : List Int) : Bool := mayB 255 l && fitB 0 0 [] l && (blockL l == xs)
def allB (xs : List Int) : Option (List Ent) :=
  match partsL xs with
  | none => none
  | some (a, _) =>
    match readB 255 0 [] a with
    | none => none
    | some l => if validB l xs = true then some l else none
def rallB (xs : List Int) : Option (List Ent) :=
  match partsL xs with
  | none => none
  | some (a, _) =>
    if lastN xs < 1 then none else
    match rreadB 256 [] a with
    | none => none
    | some l => if validB l xs = true then some l else none

theorem blockL_length (l : List Ent) : (blockL l).length = (bodyL 0 [] l).length + 2 * cntB l + 1 := by simp [blockL, start_cnt]; omega
theorem lastN_block (l : List Ent) : lastN (blockL l) = cntB l := by
  have h := blockL_length l
  have h2 := start_cnt l
  unfold lastN
  rw [h]
  simp only [blockL, List.getD]
  rw [List.getElem?_append_right (by omega), List.getElem?_append_right (by omega)]
  rw [show (bodyL 0 [] l).length + 2 * cntB l + 1 - 1 - (bodyL 0 [] l).length - (startL 0 0 [] l).length = 0 by omega]
  simp
theorem parts_block (l : List Ent) : partsL (blockL l) = some (bodyL 0 [] l, startL 0 0 [] l) := by
  have h := blockL_length l
  have h2 := start_cnt l
  have h3 := lastN_block l
  unfold partsL
  rw [h3, h, if_neg (by omega), show (bodyL 0 [] l).length + 2 * cntB l + 1 - 1 - 2 * cntB l = (bodyL 0 [] l).length by omega]
  simp only [blockL]
  rw [List.take_left' rfl, List.drop_left' rfl, List.take_left' h2]
theorem validB_iff (l : List Ent) (xs : List Int) : validB l xs = true ↔ mayB 255 l = true ∧ fitB 0 0 [] l = true ∧ blockL l = xs := by
  simp [validB, and_assoc]
theorem mayB_iff (most : Nat) (l : List Ent) : mayB most l = true ↔ 1 ≤ l.length ∧ l.length ≤ most ∧ okL [] l = true := by simp [mayB, and_assoc]
theorem allB_iff (xs : List Int) (l : List Ent) : allB xs = some l ↔ validB l xs = true ∧ l.map norm = l := by
  constructor
  · intro h
    unfold allB at h
    split at h
    · cases h
    · split at h
      · cases h
      · rename_i a b h1 m h2
        split at h
        · cases h
          exact ⟨by assumption, readB_norm _ _ _ _ _ h2⟩
        · cases h
  · rintro ⟨h1, h2⟩
    obtain ⟨m1, m2, rfl⟩ := (validB_iff l xs).1 h1
    obtain ⟨n1, n2, n3⟩ := (mayB_iff 255 l).1 m1
    simp only [allB, parts_block, readB_body l 255 0 [] (okL_fits l [] n3) n2, h2, h1, if_true]
theorem rallB_iff (xs : List Int) (l : List Ent) : rallB xs = some l ↔ validB l xs = true ∧ l.map norm = l := by
  constructor
  · intro h
    unfold rallB at h
    split at h
    · cases h
    · split at h
      · cases h
      · split at h
        · cases h
        · rename_i a b h1 _ m h2
          split at h
          · cases h
            exact ⟨by assumption, rreadB_norm _ _ _ _ h2⟩
          · cases h
  · rintro ⟨h1, h2⟩
    obtain ⟨m1, m2, rfl⟩ := (validB_iff l xs).1 h1
    obtain ⟨n1, n2, n3⟩ := (mayB_iff 255 l).1 m1
    simp only [rallB, parts_block, rreadB_body l 256 0 [] (okL_fits l [] n3) (by omega), h2, h1, if_true, lastN_block]
    rw [if_neg (by unfold cntB; omega)]
theorem rallB_eq (xs : List Int) : rallB xs = allB xs := by
  cases h : allB xs with
  | some l => exact (rallB_iff xs l).2 ((allB_iff xs l).1 h)
  | none =>
    cases h2 : rallB xs with
    | none => rfl
    | some l => rw [(allB_iff xs l).2 ((rallB_iff xs l).1 h2)] at h; cases h

/-- How far the program's reading has come. -/
def CameB (r0 : List Int) (i : Nat) (es : List Ent) (r : List Int) : Prop :=
  i ≤ 255 ∧ es.length = i ∧ readB 255 0 [] r0 = (readB (255 - i) i (lastK [] es) r).map (es ++ ·)
theorem CameB.start (r : List Int) : CameB r 0 [] r := by
  refine ⟨by omega, rfl, ?_⟩
  simp [lastK]
theorem CameB.full {r0 r : List Int} {es : List Ent} (h : CameB r0 255 es r) (hr : 0 < r.length) : readB 255 0 [] r0 = none := by
  obtain ⟨_, _, h3⟩ := h
  rw [h3, show 255 - 255 = 0 by omega, readB, if_neg (by omega)]; rfl
theorem CameB.no {r0 r : List Int} {i : Nat} {es : List Ent} (h : CameB r0 i es r) (hi : i < 255) (hr : 0 < r.length) (hp : parseB false (pre i (lastK [] es)) r = none) : readB 255 0 [] r0 = none := by
  obtain ⟨_, _, h3⟩ := h
  obtain ⟨m, hm⟩ : ∃ m, 255 - i = m + 1 := ⟨255 - i - 1, by omega⟩
  rw [h3, hm, readB, if_neg (by omega), hp]; rfl
theorem CameB.step {r0 r r' : List Int} {i : Nat} {es : List Ent} {e : Ent} (h : CameB r0 i es r) (hi : i < 255) (hr : 0 < r.length) (hp : parseB false (pre i (lastK [] es)) r = some (e, r')) : CameB r0 (i + 1) (es ++ [e]) r' := by
  obtain ⟨_, h2, h3⟩ := h
  obtain ⟨m, hm⟩ : ∃ m, 255 - i = m + 1 := ⟨255 - i - 1, by omega⟩
  refine ⟨by omega, by simp [h2], ?_⟩
  rw [h3, hm, readB, if_neg (by omega), hp, lastK_snoc, show 255 - (i + 1) = m by omega]
  simp only
  cases readB m (i + 1) e.k r' <;> simp
theorem CameB.done {r0 r : List Int} {i : Nat} {es : List Ent} (h : CameB r0 i es r) (hr : r.length = 0) : readB 255 0 [] r0 = some es := by
  obtain ⟨_, _, h3⟩ := h
  rw [h3]
  cases 255 - i <;> simp [readB, hr]
/-- How far the document's has come. -/
def CameR (r0 : List Int) (i : Nat) (es : List Ent) (r : List Int) : Prop :=
  i ≤ 256 ∧ es.length = i ∧ rreadB 256 [] r0 = (rreadB (256 - i) (lastK [] es) r).map (es ++ ·)
theorem CameR.start (r : List Int) : CameR r 0 [] r := by
  refine ⟨by omega, rfl, ?_⟩
  simp [lastK]
theorem CameR.no {r0 r : List Int} {i : Nat} {es : List Ent} (h : CameR r0 i es r) (hi : i < 256) (hr : 0 < r.length) (hp : parseB true (lastK [] es) r = none) : rreadB 256 [] r0 = none := by
  obtain ⟨_, _, h3⟩ := h
  obtain ⟨m, hm⟩ : ∃ m, 256 - i = m + 1 := ⟨256 - i - 1, by omega⟩
  rw [h3, hm, rreadB, if_neg (by omega), hp]; rfl
theorem CameR.step {r0 r r' : List Int} {i : Nat} {es : List Ent} {e : Ent} (h : CameR r0 i es r) (hi : i < 256) (hr : 0 < r.length) (hp : parseB true (lastK [] es) r = some (e, r')) : CameR r0 (i + 1) (es ++ [e]) r' := by
  obtain ⟨_, h2, h3⟩ := h
  obtain ⟨m, hm⟩ : ∃ m, 256 - i = m + 1 := ⟨256 - i - 1, by omega⟩
  refine ⟨by omega, by simp [h2], ?_⟩
  rw [h3, hm, rreadB, if_neg (by omega), hp, lastK_snoc, show 256 - (i + 1) = m by omega]
  simp only
  cases rreadB m e.k r' <;> simp
theorem CameR.done {r0 r : List Int} {i : Nat} {es : List Ent} (h : CameR r0 i es r) (hr : r.length = 0 ∨ ¬ i < 256) : rreadB 256 [] r0 = some es := by
  obtain ⟨h1, _, h3⟩ := h
  rw [h3]
  rcases hr with hr | hr
  · cases 256 - i <;> simp [rreadB, hr]
  · rw [show 256 - i = 0 by omega]; simp [rreadB]
end

section
set_option maxRecDepth 100000

theorem lessB_tri : ∀ (a b : List Int), lessB a b = true ∨ a = b ∨ lessB b a = true
  | [], [] => .inr (.inl rfl)
  | [], _ :: _ => .inl (by simp [lessB])
  | _ :: _, [] => .inr (.inr (by simp [lessB]))
  | x :: a, y :: b => by
    by_cases h : x < y
    · exact .inl (by simp [lessB, h])
    · by_cases h2 : y < x
      · exact .inr (.inr (by simp [lessB, h2]))
      · have e : x = y := by omega
        subst e
        rcases lessB_tri a b with h | h | h
        · exact .inl (by simp [lessB, h])
        · exact .inr (.inl (by rw [h]))
        · exact .inr (.inr (by simp [lessB, h]))
theorem lessB_irr : ∀ a : List Int, lessB a a = false
  | [] => rfl
  | x :: a => by simp [lessB, lessB_irr a]
theorem lessB_trans : ∀ (a b c : List Int), lessB a b = true → lessB b c = true → lessB a c = true
  | a, b, [], _, h => by cases b <;> simp [lessB] at h
  | [], _, _ :: _, _, _ => by simp [lessB]
  | x :: a, [], _ :: _, h, _ => by simp [lessB] at h
  | x :: a, y :: b, z :: c, h, k => by
    simp only [lessB, Bool.or_eq_true, decide_eq_true_eq, Bool.and_eq_true, beq_iff_eq] at h k ⊢
    rcases h with h | ⟨rfl, h⟩
    · rcases k with k | ⟨rfl, k⟩
      · exact .inl (by omega)
      · exact .inl h
    · rcases k with k | ⟨rfl, k⟩
      · exact .inl k
      · exact .inr ⟨rfl, lessB_trans a b c h k⟩
theorem lessB_snoc : ∀ (a : List Int), lessB a (a ++ [0]) = true
  | [] => by simp [lessB]
  | x :: a => by simp [lessB, lessB_snoc a]

/-- One more, in its place. -/
def insR (e : Ent) : List Ent → List Ent
  | [] => [e]
  | x :: l => if lessB x.k e.k = true then x :: insR e l else if x.k = e.k then e :: l else e :: x :: l
def riseL (l : List Ent) : List Ent := l.foldl (fun out e => insR e out) []
theorem okL_ins (e : Ent) (hf : fitsE e = true) : ∀ (l : List Ent) (p : List Int), okL p l = true → lessB p e.k = true → okL p (insR e l) = true
  | [], p, _, h => by simp [insR, okL, hf, h]
  | x :: l, p, h, hp => by
    simp only [okL, Bool.and_eq_true] at h
    obtain ⟨⟨h1, h2⟩, h3⟩ := h
    unfold insR
    split
    · rename_i hx
      simp only [okL, h1, h2, okL_ins e hf l x.k h3 hx, Bool.and_self]
    · split
      · rename_i hx he
        rw [he] at h3
        simp only [okL, hf, hp, h3, Bool.and_self]
      · rename_i hx he
        have := (lessB_tri x.k e.k).resolve_left hx
        have := this.resolve_left he
        simp only [okL, hf, hp, h1, this, h3, Bool.and_self]
theorem ins_len (e : Ent) : ∀ l : List Ent, (insR e l).length ≤ l.length + 1 ∧ 1 ≤ (insR e l).length
  | [] => by simp [insR]
  | x :: l => by
    have := ins_len e l
    unfold insR
    split
    · simp only [List.length_cons]; omega
    · split <;> simp
theorem rise_fold (l : List Ent) (h : ∀ e ∈ l, fitsE e = true) : ∀ out, okL [] out = true → okL [] (l.foldl (fun out e => insR e out) out) = true := by
  induction l with
  | nil => intro out ho; exact ho
  | cons e l ih =>
    intro out ho
    have he := h e (by simp)
    have hpos : lessB [] e.k = true := by
      have := ((fitsE_iff e).1 he).1
      cases hk : e.k with
      | nil => rw [hk] at this; simp at this
      | cons a r => simp [lessB]
    exact ih (fun x hx => h x (by simp [hx])) _ (okL_ins e he out [] ho hpos)
theorem rise_ok (l : List Ent) (h : ∀ e ∈ l, fitsE e = true) : okL [] (riseL l) = true := rise_fold l h [] rfl
theorem rise_len_fold (l : List Ent) : ∀ out, (l.foldl (fun out e => insR e out) out).length ≤ out.length + l.length := by
  induction l with
  | nil => intro out; simp
  | cons e l ih =>
    intro out
    have h1 := ih (insR e out)
    have h2 := (ins_len e out).1
    simp only [List.foldl_cons, List.length_cons] at h1 ⊢; omega
theorem rise_len (l : List Ent) : (riseL l).length ≤ l.length := by simpa [riseL] using rise_len_fold l []
theorem rise_snoc (l : List Ent) (e : Ent) : riseL (l ++ [e]) = insR e (riseL l) := by simp [riseL]

/-- How insR goes, by its place. -/
theorem ins_set (e : Ent) : ∀ (l : List Ent) (k : Nat) (x : Ent), (∀ (j : Nat) (y : Ent), j < k → l[j]? = some y → lessB y.k e.k = true) → l[k]? = some x → x.k = e.k → insR e l = l.set k e
  | [], k, x, _, h, _ => by simp at h
  | y :: l, 0, x, _, h, hx => by
    simp at h
    subst h
    simp [insR, hx, lessB_irr]
  | y :: l, k + 1, x, hl, h, hx => by
    have := ins_set e l k x (fun j z hj hz => hl (j + 1) z (by omega) (by simpa using hz)) (by simpa using h) hx
    have hy := hl 0 y (by omega) rfl
    simp [insR, hy, this]
theorem ins_mid (e : Ent) : ∀ (l : List Ent) (k : Nat), k ≤ l.length → (∀ (j : Nat) (y : Ent), j < k → l[j]? = some y → lessB y.k e.k = true) → (∀ x, l[k]? = some x → lessB x.k e.k = false ∧ ¬ x.k = e.k) → insR e l = l.take k ++ [e] ++ l.drop k
  | [], k, hk, _, _ => by
    have : k = 0 := by simpa using hk
    subst this; rfl
  | y :: l, 0, _, _, h => by
    obtain ⟨h1, h2⟩ := h y rfl
    simp [insR, h1, h2]
  | y :: l, k + 1, hk, hl, h => by
    have := ins_mid e l k (by simpa using hk) (fun j z hj hz => hl (j + 1) z (by omega) (by simpa using hz)) (fun x hx => h x (by simpa using hx))
    have hy := hl 0 y (by omega) rfl
    simp [insR, hy, this]

/-- The first that does not stand ahead. -/
def seekL (l : List Ent) (ks : List Int) : Option Ent := l.find? (fun e => !lessB e.k ks)
def entsOf (xs : List Int) : List Ent := (allB xs).getD []
theorem seek_at : ∀ (l : List Ent) (ks : List Int) (k : Nat) (e : Ent), l[k]? = some e → (∀ (j : Nat) (y : Ent), j < k → l[j]? = some y → lessB y.k ks = true) → lessB e.k ks = false → seekL l ks = some e
  | [], _, k, e, h, _, _ => by simp at h
  | y :: l, ks, 0, e, h, _, hl => by
    simp at h
    subst h
    simp [seekL, hl]
  | y :: l, ks, k + 1, e, h, hb, hl => by
    have := seek_at l ks k e (by simpa using h) (fun j z hj hz => hb (j + 1) z (by omega) (by simpa using hz)) hl
    have hy := hb 0 y (by omega) rfl
    simp only [seekL] at this ⊢
    simp [hy, this]
theorem seek_none (l : List Ent) (ks : List Int) (h : ∀ (j : Nat) (y : Ent), j < l.length → l[j]? = some y → lessB y.k ks = true) : seekL l ks = none := by
  rw [seekL, List.find?_eq_none]
  intro x hx
  obtain ⟨i, hi, rfl⟩ := List.getElem_of_mem hx
  simp [h i l[i] hi (by simp)]
/-- Of entries that rise: what stands ahead of another. -/
theorem okL_all : ∀ (l : List Ent) (p : List Int), okL p l = true → ∀ (j : Nat) (y : Ent), l[j]? = some y → lessB p y.k = true
  | [], _, _, j, y, h => by simp at h
  | x :: l, p, h, 0, y, hy => by
    simp at hy
    subst hy
    simp only [okL, Bool.and_eq_true] at h
    exact h.1.2
  | x :: l, p, h, j + 1, y, hy => by
    simp only [okL, Bool.and_eq_true] at h
    exact lessB_trans _ _ _ h.1.2 (okL_all l x.k h.2 j y (by simpa using hy))
theorem okL_lt : ∀ (l : List Ent) (p : List Int), okL p l = true → ∀ (i j : Nat) (x y : Ent), i < j → l[i]? = some x → l[j]? = some y → lessB x.k y.k = true
  | [], _, _, i, j, x, y, _, h, _ => by simp at h
  | a :: l, p, h, 0, j + 1, x, y, _, hx, hy => by
    simp at hx
    subst hx
    simp only [okL, Bool.and_eq_true] at h
    exact okL_all l a.k h.2 j y (by simpa using hy)
  | a :: l, p, h, i + 1, j + 1, x, y, hij, hx, hy => by
    simp only [okL, Bool.and_eq_true] at h
    exact okL_lt l a.k h.2 i j x y (by omega) (by simpa using hx) (by simpa using hy)
  | _ :: _, _, _, _, 0, _, _, h, _, _ => by omega
end

end Go.Proofs.Yteeemfohehpaeaa
