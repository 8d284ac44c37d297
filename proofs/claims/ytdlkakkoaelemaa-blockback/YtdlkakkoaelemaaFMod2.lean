/- Batches of entries as plain lists of numbers: how they are laid, how they are read; the one is the other's way back. -/
import Derived.Test.YtdlkakkoaelemaaFMod
namespace Go.Proofs.Ytdlkakkoaelemaa

structure Ent where
  k : List Int
  v : List Int
  g : Bool

def encE (e : Ent) : List Int := if e.g = true then 0 :: (e.k.length : Int) :: e.k else 1 :: (e.k.length : Int) :: (e.k ++ (low 2 e.v.length ++ e.v))
def batchL (l : List Ent) : List Int := low 2 l.length ++ l.flatMap encE
def fitsE (e : Ent) : Bool := decide (1 ≤ e.k.length ∧ e.k.length ≤ 255 ∧ (e.g = true ∨ e.v.length ≤ 4095))
def mayL (l : List Ent) : Bool := decide (l.length ≤ 8191) && l.all fitsE

theorem fitsE_iff (e : Ent) : fitsE e = true ↔ 1 ≤ e.k.length ∧ e.k.length ≤ 255 ∧ (e.g = true ∨ e.v.length ≤ 4095) := by simp [fitsE]
theorem mayL_iff (l : List Ent) : mayL l = true ↔ l.length ≤ 8191 ∧ ∀ e ∈ l, fitsE e = true := by simp [mayL]

theorem encE_length (e : Ent) (h : fitsE e = true) : (encE e).length ≤ 4354 := by
  obtain ⟨h1, h2, h3⟩ := (fitsE_iff e).1 h
  unfold encE
  split
  · simp; omega
  · rename_i hg
    have := h3.resolve_left hg
    simp [length_low]; omega
theorem flat_length : ∀ (l : List Ent), (∀ e ∈ l, fitsE e = true) → (l.flatMap encE).length ≤ 4354 * l.length
  | [], _ => by simp
  | e :: l, h => by
    have h1 := encE_length e (h e (by simp))
    have h2 := flat_length l (fun x hx => h x (by simp [hx]))
    simp only [List.flatMap_cons, List.length_append, List.length_cons]; omega
theorem batchL_length (l : List Ent) (h : mayL l = true) : (batchL l).length ≤ 40000000 := by
  obtain ⟨h1, h2⟩ := (mayL_iff l).1 h
  have := flat_length l h2
  simp only [batchL, List.length_append, length_low]; omega

def num1 (xs : List Int) : Int := xs.getD 0 0
def num2 (xs : List Int) : Int := xs.getD 0 0 * 256 + xs.getD 1 0
def takeN (k : Nat) (f : List Int → Int) (lo hi : Int) (xs : List Int) : Option (Int × List Int) := if xs.length < k ∨ f xs < lo ∨ hi < f xs then none else some (f xs, xs.drop k)
def takeT (n : Nat) (xs : List Int) : Option (List Int × List Int) := if xs.length < n then none else some (xs.take n, xs.drop n)
def parseE (xs : List Int) : Option (Ent × List Int) :=
  match takeN 1 num1 0 1 xs with
  | none => none
  | some (kd, r1) =>
    match takeN 1 num1 1 255 r1 with
    | none => none
    | some (kl, r2) =>
      match takeT kl.toNat r2 with
      | none => none
      | some (key, r3) =>
        if kd = 0 then some (⟨key, [], true⟩, r3)
        else
          match takeN 2 num2 0 4095 r3 with
          | none => none
          | some (vl, r4) =>
            match takeT vl.toNat r4 with
            | none => none
            | some (v, r5) => some (⟨key, v, false⟩, r5)
def parseN : Nat → List Int → Option (List Ent × List Int)
  | 0, xs => some ([], xs)
  | n + 1, xs =>
    match parseE xs with
    | none => none
    | some (e, r) =>
      match parseN n r with
      | none => none
      | some (es, r') => some (e :: es, r')
def entriesL (xs : List Int) : Option (List Ent) :=
  match takeN 2 num2 0 8191 xs with
  | none => none
  | some (n, r) =>
    match parseN n.toNat r with
    | some (es, []) => some es
    | _ => none

def norm (e : Ent) : Ent := if e.g = true then ⟨e.k, [], true⟩ else e

theorem takeT_app (xs ys : List Int) (n : Nat) (h : xs.length = n) : takeT n (xs ++ ys) = some (xs, ys) := by
  subst h
  simp [takeT]
theorem num2_low (n : Nat) (h : n ≤ 65535) (ys : List Int) : num2 (low 2 n ++ ys) = n := by
  rw [low2]; simp [num2]; omega

theorem parseE_enc (e : Ent) (h : fitsE e = true) (ys : List Int) : parseE (encE e ++ ys) = some (norm e, ys) := by
  obtain ⟨h1, h2, h3⟩ := (fitsE_iff e).1 h
  obtain ⟨k, v, g⟩ := e
  simp only at h1 h2 h3
  cases g with
  | true =>
    have a1 : takeN 1 num1 0 1 (0 :: (k.length : Int) :: (k ++ ys)) = some (0, (k.length : Int) :: (k ++ ys)) := by simp [takeN, num1]
    have a2 : takeN 1 num1 1 255 ((k.length : Int) :: (k ++ ys)) = some ((k.length : Int), k ++ ys) := by
      simp only [takeN, num1, List.getD_cons_zero, List.length_cons, List.drop_succ_cons, List.drop_zero]; rw [if_neg (by omega)]
    have a3 := takeT_app k ys ((k.length : Int)).toNat (by omega)
    simp only [encE, if_true, List.cons_append, parseE, a1, a2, a3, norm]
  | false =>
    have h4 : v.length ≤ 4095 := by simpa using h3
    have a1 : takeN 1 num1 0 1 (1 :: (k.length : Int) :: (k ++ (low 2 v.length ++ v) ++ ys)) = some (1, (k.length : Int) :: (k ++ (low 2 v.length ++ v) ++ ys)) := by simp [takeN, num1]
    have a2 : takeN 1 num1 1 255 ((k.length : Int) :: (k ++ (low 2 v.length ++ v) ++ ys)) = some ((k.length : Int), k ++ (low 2 v.length ++ v) ++ ys) := by
      simp only [takeN, num1, List.getD_cons_zero, List.length_cons, List.drop_succ_cons, List.drop_zero]; rw [if_neg (by omega)]
    have a3 : takeT ((k.length : Int)).toNat (k ++ (low 2 v.length ++ v) ++ ys) = some (k, low 2 v.length ++ (v ++ ys)) := by
      rw [List.append_assoc, List.append_assoc]; exact takeT_app _ _ _ (by omega)
    have a4 : takeN 2 num2 0 4095 (low 2 v.length ++ (v ++ ys)) = some ((v.length : Int), v ++ ys) := by
      rw [takeN, num2_low v.length (by omega), if_neg (by simp [length_low]; omega), List.drop_left' (by simp [length_low])]
    have a5 := takeT_app v ys ((v.length : Int)).toNat (by omega)
    simp only [encE, Bool.false_eq_true, if_false, List.cons_append, parseE, a1, a2, a3, a4, a5, norm, show ((1 : Int) = 0) = False by simp]

theorem parseN_enc : ∀ (l : List Ent), (∀ e ∈ l, fitsE e = true) → ∀ ys, parseN l.length (l.flatMap encE ++ ys) = some (l.map norm, ys)
  | [], _, ys => by simp [parseN]
  | e :: l, h, ys => by
    have h1 := parseE_enc e (h e (by simp)) (l.flatMap encE ++ ys)
    have h2 := parseN_enc l (fun x hx => h x (by simp [hx])) ys
    simp only [List.flatMap_cons, List.append_assoc, List.length_cons, parseN, h1, h2, List.map_cons]

theorem entries_batch (l : List Ent) (h : mayL l = true) : entriesL (batchL l) = some (l.map norm) := by
  obtain ⟨h1, h2⟩ := (mayL_iff l).1 h
  have a1 : takeN 2 num2 0 8191 (batchL l) = some ((l.length : Int), l.flatMap encE) := by
    rw [takeN, batchL, num2_low l.length (by omega), if_neg (by simp [length_low]; omega), List.drop_left' (by simp [length_low])]
  have a2 := parseN_enc l h2 []
  rw [List.append_nil] at a2
  simp only [entriesL, a1, Int.toNat_natCast, a2]

/-- One by one. -/
def sameE (a b : Ent) : Bool := a.k == b.k && a.g == b.g && (a.g || a.v == b.v)
def sameL : List Ent → List Ent → Bool
  | [], [] => true
  | a :: l, b :: m => sameE a b && sameL l m
  | _, _ => false

theorem sameE_iff (a b : Ent) : sameE a b = true ↔ norm a = norm b := by
  obtain ⟨k, v, g⟩ := a
  obtain ⟨k', v', g'⟩ := b
  cases g <;> cases g' <;> simp [sameE, norm]
theorem sameL_iff : ∀ (l m : List Ent), sameL l m = true ↔ l.map norm = m.map norm
  | [], [] => by simp [sameL]
  | [], _ :: _ => by simp [sameL]
  | _ :: _, [] => by simp [sameL]
  | a :: l, b :: m => by
    have := sameL_iff l m
    have := sameE_iff a b
    simp [sameL, *]
theorem norm_norm (e : Ent) : norm (norm e) = norm e := by
  obtain ⟨k, v, g⟩ := e
  cases g <;> simp [norm]
theorem sameL_norm (l : List Ent) : sameL l (l.map norm) = true := by
  rw [sameL_iff, List.map_map]
  exact List.map_congr_left (fun e _ => (norm_norm e).symm)
theorem sameL_refl (l : List Ent) : sameL l l = true := by rw [sameL_iff]
theorem encE_norm (e : Ent) : encE (norm e) = encE e := by
  obtain ⟨k, v, g⟩ := e
  cases g <;> simp [encE, norm]
theorem batchL_norm (l : List Ent) : batchL (l.map norm) = batchL l := by
  simp only [batchL, List.length_map]
  congr 1
  induction l with
  | nil => rfl
  | cons e l ih => simp [encE_norm, ih]
theorem batch_inj (p q : List Ent) (h : mayL p = true) (k : mayL q = true) : (batchL p = batchL q) ↔ sameL p q = true := by
  rw [sameL_iff]
  refine ⟨fun e => ?_, fun e => ?_⟩
  · have a := entries_batch p h
    have b := entries_batch q k
    rw [e, b] at a
    exact (Option.some.inj a).symm
  · rw [← batchL_norm p, e, batchL_norm]

theorem sameL_length : ∀ (l m : List Ent), sameL l m = true → l.length = m.length
  | [], [], _ => rfl
  | a :: l, b :: m, h => by
    simp [sameL] at h
    simp [sameL_length l m h.2]
  | [], _ :: _, h => by simp [sameL] at h
  | _ :: _, [], h => by simp [sameL] at h

/-- How far the reading of n entries has come: es are read, r is left. -/
def Came (n : Nat) (r0 : List Int) (i : Nat) (es : List Ent) (r : List Int) : Prop :=
  i ≤ n ∧ es.length = i ∧ parseN n r0 = (match parseN (n - i) r with | none => none | some (fs, r') => some (es ++ fs, r'))
theorem Came.start (n : Nat) (r : List Int) : Came n r 0 [] r := by
  refine ⟨by omega, rfl, ?_⟩
  rw [Nat.sub_zero]
  cases parseN n r with
  | none => rfl
  | some p => rfl
theorem Came.no {n i : Nat} {r0 r : List Int} {es : List Ent} (h : Came n r0 i es r) (hi : i < n) (k : parseE r = none) : parseN n r0 = none := by
  obtain ⟨h1, h2, h3⟩ := h
  obtain ⟨m, hm⟩ : ∃ m, n - i = m + 1 := ⟨n - i - 1, by omega⟩
  rw [h3, hm, parseN, k]
theorem Came.step {n i : Nat} {r0 r r' : List Int} {es : List Ent} {e : Ent} (h : Came n r0 i es r) (hi : i < n) (k : parseE r = some (e, r')) : Came n r0 (i + 1) (es ++ [e]) r' := by
  obtain ⟨h1, h2, h3⟩ := h
  obtain ⟨m, hm⟩ : ∃ m, n - i = m + 1 := ⟨n - i - 1, by omega⟩
  refine ⟨by omega, by simp [h2], ?_⟩
  rw [h3, hm, parseN, k, show n - (i + 1) = m by omega]
  simp only
  cases parseN m r' with
  | none => rfl
  | some p => simp
theorem Came.done {n i : Nat} {r0 r : List Int} {es : List Ent} (h : Came n r0 i es r) (hi : ¬ i < n) : parseN n r0 = some (es, r) := by
  obtain ⟨h1, h2, h3⟩ := h
  rw [h3, show n - i = 0 by omega, parseN]
  simp

end Go.Proofs.Ytdlkakkoaelemaa
