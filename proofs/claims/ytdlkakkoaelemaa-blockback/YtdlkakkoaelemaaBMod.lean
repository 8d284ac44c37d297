/- Blocks as plain lists of numbers: how they are laid, how they are read; the one is the other's way back. -/
import Derived.Test.YtdlkakkoaelemaaFMod2
import Derived.Test.YtdlkakkoaelemaaOMath
namespace Go.Proofs.Ytdlkakkoaelemaa

theorem shared_take : ∀ (p k : List Int), p.take (shared p k) = k.take (shared p k)
  | [], k => by simp [shared]
  | x :: p, [] => by simp [shared]
  | x :: p, y :: k => by
    by_cases e : x = y
    · simp [shared, e, shared_take p k]
    · simp [shared, e]
theorem shared_nil (k : List Int) : shared [] k = 0 := by simp [shared]

/-- What stands behind an entry's Key. -/
def tailE (e : Ent) : List Int := if e.g = true then [0] else 1 :: (low 2 e.v.length ++ e.v)
/-- An entry, behind one whose Key is p. -/
def encB (p : List Int) (e : Ent) : List Int := (shared p e.k : Int) :: ((e.k.length - shared p e.k : Nat) : Int) :: (e.k.drop (shared p e.k) ++ tailE e)
def pre (i : Nat) (p : List Int) : List Int := if i % 4 = 0 then [] else p
def bodyL : Nat → List Int → List Ent → List Int
  | _, _, [] => []
  | i, p, e :: l => encB (pre i p) e ++ bodyL (i + 1) e.k l
def startL : Nat → Nat → List Int → List Ent → List Int
  | _, _, _, [] => []
  | i, o, p, e :: l => (if i % 4 = 0 then low 2 o else []) ++ startL (i + 1) (o + (encB (pre i p) e).length) e.k l
def fitB : Nat → Nat → List Int → List Ent → Bool
  | _, _, _, [] => true
  | i, o, p, e :: l => decide (i % 4 = 0 → o ≤ 65535) && fitB (i + 1) (o + (encB (pre i p) e).length) e.k l
def okL : List Int → List Ent → Bool
  | _, [] => true
  | p, e :: l => (fitsE e && lessB p e.k) && okL e.k l
def lastK : List Int → List Ent → List Int
  | p, [] => p
  | _, e :: l => lastK e.k l
def mayB (most : Nat) (l : List Ent) : Bool := decide (1 ≤ l.length ∧ l.length ≤ most) && okL [] l
def cntB (l : List Ent) : Nat := (l.length + 3) / 4
def blockL (l : List Ent) : List Int := bodyL 0 [] l ++ (startL 0 0 [] l ++ [(cntB l : Int)])

theorem lastK_snoc : ∀ (l : List Ent) (p : List Int) (e : Ent), lastK p (l ++ [e]) = e.k
  | [], _, _ => rfl
  | x :: l, _, e => lastK_snoc l x.k e
theorem bodyL_snoc : ∀ (l : List Ent) (i : Nat) (p : List Int) (e : Ent), bodyL i p (l ++ [e]) = bodyL i p l ++ encB (pre (i + l.length) (lastK p l)) e
  | [], i, p, e => by simp [bodyL, lastK]
  | x :: l, i, p, e => by
    have := bodyL_snoc l (i + 1) x.k e
    simp only [List.cons_append, bodyL, lastK, List.length_cons, this, List.append_assoc]
    rw [show i + 1 + l.length = i + (l.length + 1) by omega]
theorem startL_snoc : ∀ (l : List Ent) (i o : Nat) (p : List Int) (e : Ent), startL i o p (l ++ [e]) = startL i o p l ++ (if (i + l.length) % 4 = 0 then low 2 ((o + (bodyL i p l).length : Nat) : Int) else [])
  | [], i, o, p, e => by simp [startL, bodyL]
  | x :: l, i, o, p, e => by
    have := startL_snoc l (i + 1) (o + (encB (pre i p) x).length) x.k e
    simp only [List.cons_append, startL, bodyL, List.length_cons, List.length_append, this, List.append_assoc]
    rw [show i + 1 + l.length = i + (l.length + 1) by omega, show o + (encB (pre i p) x).length + (bodyL (i + 1) x.k l).length = o + ((encB (pre i p) x).length + (bodyL (i + 1) x.k l).length) by omega]
theorem fitB_snoc : ∀ (l : List Ent) (i o : Nat) (p : List Int) (e : Ent), fitB i o p (l ++ [e]) = (fitB i o p l && decide ((i + l.length) % 4 = 0 → o + (bodyL i p l).length ≤ 65535))
  | [], i, o, p, e => by simp only [List.nil_append, fitB, bodyL, List.length_nil, Nat.add_zero, Bool.and_true, Bool.true_and]; exact decide_eq_decide.2 Iff.rfl
  | x :: l, i, o, p, e => by
    have := fitB_snoc l (i + 1) (o + (encB (pre i p) x).length) x.k e
    simp only [List.cons_append, fitB, bodyL, List.length_cons, List.length_append, this, Bool.and_assoc]
    rw [show i + 1 + l.length = i + (l.length + 1) by omega, show o + (encB (pre i p) x).length + (bodyL (i + 1) x.k l).length = o + ((encB (pre i p) x).length + (bodyL (i + 1) x.k l).length) by omega]
theorem okL_snoc : ∀ (l : List Ent) (p : List Int) (e : Ent), okL p (l ++ [e]) = (okL p l && (fitsE e && lessB (lastK p l) e.k))
  | [], p, e => by simp [okL, lastK]
  | x :: l, p, e => by simp only [List.cons_append, okL, lastK, okL_snoc l x.k e, Bool.and_assoc]
theorem okL_app : ∀ (l m : List Ent) (p : List Int), okL p (l ++ m) = (okL p l && okL (lastK p l) m)
  | [], m, p => by simp [okL, lastK]
  | x :: l, m, p => by simp only [List.cons_append, okL, lastK, okL_app l m x.k, Bool.and_assoc]
theorem fitB_app : ∀ (l m : List Ent) (i o : Nat) (p : List Int), fitB i o p (l ++ m) = (fitB i o p l && fitB (i + l.length) (o + (bodyL i p l).length) (lastK p l) m)
  | [], m, i, o, p => by simp [fitB, lastK, bodyL]
  | x :: l, m, i, o, p => by
    simp only [List.cons_append, fitB, lastK, bodyL, List.length_cons, List.length_append, fitB_app l m, Bool.and_assoc]
    rw [show i + 1 + l.length = i + (l.length + 1) by omega, show o + (encB (pre i p) x).length + (bodyL (i + 1) x.k l).length = o + ((encB (pre i p) x).length + (bodyL (i + 1) x.k l).length) by omega]
theorem okL_fits : ∀ (l : List Ent) (p : List Int), okL p l = true → ∀ e ∈ l, fitsE e = true
  | [], _, _, _, h => by simp at h
  | x :: l, p, h, e, he => by
    simp only [okL, Bool.and_eq_true] at h
    rcases List.mem_cons.1 he with rfl | he
    · exact h.1.1
    · exact okL_fits l x.k h.2 e he

theorem encB_length (p : List Int) (e : Ent) : (encB p e).length = 2 + (e.k.length - shared p e.k) + (if e.g = true then 1 else 3 + e.v.length) := by
  have := (shared_le p e.k).2
  unfold encB tailE
  split <;> simp [length_low] <;> omega
theorem encB_le (p : List Int) (e : Ent) (h : fitsE e = true) : (encB p e).length ≤ 4360 := by
  obtain ⟨h1, h2, h3⟩ := (fitsE_iff e).1 h
  rw [encB_length]
  split
  · omega
  · rename_i hg
    have := h3.resolve_left hg
    omega
theorem bodyL_le : ∀ (l : List Ent) (i : Nat) (p : List Int), (∀ e ∈ l, fitsE e = true) → (bodyL i p l).length ≤ 4360 * l.length
  | [], _, _, _ => by simp [bodyL]
  | e :: l, i, p, h => by
    have h1 := encB_le (pre i p) e (h e (by simp))
    have h2 := bodyL_le l (i + 1) e.k (fun x hx => h x (by simp [hx]))
    simp only [bodyL, List.length_append, List.length_cons]; omega
theorem startL_len : ∀ (l : List Ent) (i o : Nat) (p : List Int), (startL i o p l).length = 2 * ((i + l.length + 3) / 4 - (i + 3) / 4)
  | [], i, o, p => by simp [startL]
  | e :: l, i, o, p => by
    have h := startL_len l (i + 1) (o + (encB (pre i p) e).length) e.k
    simp only [startL, List.length_append, h, List.length_cons]
    split
    · simp [length_low]; omega
    · simp; omega
theorem start_cnt (l : List Ent) : (startL 0 0 [] l).length = 2 * cntB l := by
  rw [startL_len]; simp [cntB]

/-- What is read. -/
def numB (k : Nat) (f : List Int → Int) (xs : List Int) : Option (Int × List Int) := if xs.length < k then none else some (f xs, xs.drop k)
def parseB (st : Bool) (p xs : List Int) : Option (Ent × List Int) :=
  match numB 1 num1 xs with
  | none => none
  | some (s, r1) =>
    if (p.length : Int) < s then none
    else
      match numB 1 num1 r1 with
      | none => none
      | some (m, r2) =>
        match takeT m.toNat r2 with
        | none => none
        | some (t, r3) =>
          match numB 1 num1 r3 with
          | none => none
          | some (kd, r4) =>
            if kd = 0 then some (⟨p.take s.toNat ++ t, [], true⟩, r4)
            else if st = true ∧ 1 < kd then none
            else
              match numB 2 num2 r4 with
              | none => none
              | some (vl, r5) =>
                match takeT vl.toNat r5 with
                | none => none
                | some (v, r6) => some (⟨p.take s.toNat ++ t, v, false⟩, r6)

theorem parseB_enc (st : Bool) (p q : List Int) (e : Ent) (h : fitsE e = true) (hq : shared p e.k ≤ q.length) (hq2 : q.take (shared p e.k) = e.k.take (shared p e.k)) (ys : List Int) : parseB st q (encB p e ++ ys) = some (norm e, ys) := by
  obtain ⟨h1, h2, h3⟩ := (fitsE_iff e).1 h
  have hs := (shared_le p e.k).2
  obtain ⟨k, v, g⟩ := e
  simp only at h1 h2 h3 hs hq hq2
  generalize hS : shared p k = s at hs hq hq2
  have b1 : ∀ (x : Int) (zs : List Int), numB 1 num1 (x :: zs) = some (x, zs) := fun x zs => by simp [numB, num1]
  have hk : q.take s ++ k.drop s = k := by rw [hq2, List.take_append_drop]
  have a2 : ∀ zs : List Int, takeT (k.length - s) (k.drop s ++ zs) = some (k.drop s, zs) := fun zs => takeT_app _ _ _ (by simp)
  have hs0 : ¬ (q.length : Int) < (s : Int) := by omega
  cases g with
  | true =>
    have e1 : encB p ⟨k, v, true⟩ ++ ys = (s : Int) :: ((k.length - s : Nat) : Int) :: (k.drop s ++ (0 :: ys)) := by simp [encB, tailE, hS]
    simp only [e1, parseB, b1, a2, if_neg hs0, if_true, Int.toNat_natCast, hk, norm]
  | false =>
    have h4 : v.length ≤ 4095 := by simpa using h3
    have e1 : encB p ⟨k, v, false⟩ ++ ys = (s : Int) :: ((k.length - s : Nat) : Int) :: (k.drop s ++ (1 :: (low 2 v.length ++ (v ++ ys)))) := by simp [encB, tailE, hS]
    have a4 : numB 2 num2 (low 2 v.length ++ (v ++ ys)) = some ((v.length : Int), v ++ ys) := by
      rw [numB, num2_low v.length (by omega), if_neg (by simp [length_low]), List.drop_left' (by simp [length_low])]
    have a5 := takeT_app v ys v.length rfl
    simp only [e1, parseB, b1, a2, if_neg hs0, Int.toNat_natCast, hk, norm, a4, a5, show ((1 : Int) = 0) = False by simp, if_false, show ¬ (st = true ∧ (1 : Int) < 1) by omega, Bool.false_eq_true]

theorem takeT_some {n : Nat} {xs t r : List Int} (h : takeT n xs = some (t, r)) : t = xs.take n ∧ r = xs.drop n ∧ ¬ xs.length < n := by
  unfold takeT at h
  split at h
  · cases h
  · cases h; exact ⟨rfl, rfl, by assumption⟩
theorem numB_some {k : Nat} {f : List Int → Int} {xs r : List Int} {v : Int} (h : numB k f xs = some (v, r)) : v = f xs ∧ r = xs.drop k ∧ ¬ xs.length < k := by
  unfold numB at h
  split at h
  · cases h
  · cases h; exact ⟨rfl, rfl, by assumption⟩
theorem parseB_norm {st : Bool} {p xs r : List Int} {e : Ent} (h : parseB st p xs = some (e, r)) : norm e = e ∧ r.length < xs.length := by
  unfold parseB at h
  split at h
  · cases h
  · rename_i s r1 h1
    obtain ⟨_, rfl, l1⟩ := numB_some h1
    split at h
    · cases h
    · split at h
      · cases h
      · rename_i m r2 h2
        obtain ⟨_, rfl, l2⟩ := numB_some h2
        split at h
        · cases h
        · rename_i t r3 h3
          obtain ⟨_, rfl, _⟩ := takeT_some h3
          split at h
          · cases h
          · rename_i kd r4 h4
            obtain ⟨_, rfl, _⟩ := numB_some h4
            split at h
            · cases h
              exact ⟨by simp [norm], by simp only [List.length_drop]; omega⟩
            · split at h
              · cases h
              · split at h
                · cases h
                · rename_i vl r5 h5
                  obtain ⟨_, rfl, _⟩ := numB_some h5
                  split at h
                  · cases h
                  · rename_i v r6 h6
                    obtain ⟨_, rfl, _⟩ := takeT_some h6
                    cases h
                    exact ⟨by simp [norm], by simp only [List.length_drop]; omega⟩

/-- The program's loop: i entries are read, n more may come. -/
def readB : Nat → Nat → List Int → List Int → Option (List Ent)
  | 0, _, _, xs => if xs.length = 0 then some [] else none
  | n + 1, i, p, xs => if xs.length = 0 then some [] else
    match parseB false (pre i p) xs with
    | none => none
    | some (e, r) => (readB n (i + 1) e.k r).map (e :: ·)
/-- The document's loop. -/
def rreadB : Nat → List Int → List Int → Option (List Ent)
  | 0, _, _ => some []
  | n + 1, p, xs => if xs.length = 0 then some [] else
    match parseB true p xs with
    | none => none
    | some (e, r) => (rreadB n e.k r).map (e :: ·)

theorem norm_k (e : Ent) : (norm e).k = e.k := by unfold norm; split <;> rfl
theorem encB_pos (p : List Int) (e : Ent) (ys : List Int) : ¬ (encB p e ++ ys).length = 0 := by simp [encB]
theorem pre_fit (i : Nat) (p q : List Int) (e : Ent) (h : q = p ∨ q = pre i p) : shared (pre i p) e.k ≤ q.length ∧ q.take (shared (pre i p) e.k) = e.k.take (shared (pre i p) e.k) := by
  by_cases hi : i % 4 = 0
  · have : pre i p = [] := by simp [pre, hi]
    rw [this, shared_nil]; simp
  · have hp : pre i p = p := by simp [pre, hi]
    rw [hp] at h ⊢
    have hq : q = p := by simpa using h
    subst hq
    exact ⟨(shared_le q e.k).1, shared_take q e.k⟩
theorem readB_body : ∀ (l : List Ent) (n i : Nat) (p : List Int), (∀ e ∈ l, fitsE e = true) → l.length ≤ n → readB n i p (bodyL i p l) = some (l.map norm)
  | [], n, i, p, _, _ => by cases n <;> simp [readB, bodyL]
  | e :: l, 0, i, p, _, h => by simp at h
  | e :: l, n + 1, i, p, hf, h => by
    have h1 := readB_body l n (i + 1) e.k (fun x hx => hf x (by simp [hx])) (by simpa using h)
    obtain ⟨q1, q2⟩ := pre_fit i p (pre i p) e (.inr rfl)
    have h2 := parseB_enc false (pre i p) (pre i p) e (hf e (by simp)) q1 q2 (bodyL (i + 1) e.k l)
    simp only [bodyL, readB, if_neg (encB_pos _ _ _), h2, norm_k, h1, Option.map_some, List.map_cons]
theorem rreadB_body : ∀ (l : List Ent) (n i : Nat) (p : List Int), (∀ e ∈ l, fitsE e = true) → l.length ≤ n → rreadB n p (bodyL i p l) = some (l.map norm)
  | [], n, i, p, _, _ => by cases n <;> simp [rreadB, bodyL]
  | e :: l, 0, i, p, _, h => by simp at h
  | e :: l, n + 1, i, p, hf, h => by
    have h1 := rreadB_body l n (i + 1) e.k (fun x hx => hf x (by simp [hx])) (by simpa using h)
    obtain ⟨q1, q2⟩ := pre_fit i p p e (.inl rfl)
    have h2 := parseB_enc true (pre i p) p e (hf e (by simp)) q1 q2 (bodyL (i + 1) e.k l)
    simp only [bodyL, rreadB, if_neg (encB_pos _ _ _), h2, norm_k, h1, Option.map_some, List.map_cons]
theorem readB_norm : ∀ (n i : Nat) (p xs : List Int) (l : List Ent), readB n i p xs = some l → l.map norm = l
  | 0, i, p, xs, l, h => by
    unfold readB at h
    split at h
    · cases h; rfl
    · cases h
  | n + 1, i, p, xs, l, h => by
    unfold readB at h
    split at h
    · cases h; rfl
    · split at h
      · cases h
      · rename_i e r h1
        cases h2 : readB n (i + 1) e.k r with
        | none => rw [h2] at h; cases h
        | some m =>
          rw [h2] at h
          cases h
          simp [readB_norm n _ _ _ m h2, (parseB_norm h1).1]
theorem rreadB_norm : ∀ (n : Nat) (p xs : List Int) (l : List Ent), rreadB n p xs = some l → l.map norm = l
  | 0, p, xs, l, h => by cases h; rfl
  | n + 1, p, xs, l, h => by
    unfold rreadB at h
    split at h
    · cases h; rfl
    · split at h
      · cases h
      · rename_i e r h1
        cases h2 : rreadB n e.k r with
        | none => rw [h2] at h; cases h
        | some m =>
          rw [h2] at h
          cases h
          simp [rreadB_norm n _ _ m h2, (parseB_norm h1).1]

/-- The last byte: how many beginnings there are. -/
def lastN (xs : List Int) : Nat := (xs.getD (xs.length - 1) 0).toNat
def partsL (xs : List Int) : Option (List Int × List Int) :=
  if xs.length < 1 ∨ xs.length - 1 < 2 * lastN xs then none else some (xs.take (xs.length - 1 - 2 * lastN xs), (xs.drop (xs.length - 1 - 2 * lastN xs)).take (2 * lastN xs))
def validB (l : List Ent) (xs : List Int) : Bool := mayB 255 l && fitB 0 0 [] l && (blockL l == xs)
def allB (xs : List Int) : Option (List Ent) :=
  match partsL xs with
  | none => none
  | some (a, _) =>
    match readB 255 0 [] a with
    | none => none
    | some l => if validB l xs = true then some l else none
def rallB (xs : List Int) : Option (List Ent) :=
  match partsL xs with
  | none => none
  | some (a, _) =>
    if lastN xs < 1 then none else
    match rreadB 256 [] a with
    | none => none
    | some l => if validB l xs = true then some l else none

theorem blockL_length (l : List Ent) : (blockL l).length = (bodyL 0 [] l).length + 2 * cntB l + 1 := by simp [blockL, start_cnt]; omega
theorem lastN_block (l : List Ent) : lastN (blockL l) = cntB l := by
  have h := blockL_length l
  have h2 := start_cnt l
  unfold lastN
  rw [h]
  simp only [blockL, List.getD]
  rw [List.getElem?_append_right (by omega), List.getElem?_append_right (by omega)]
  rw [show (bodyL 0 [] l).length + 2 * cntB l + 1 - 1 - (bodyL 0 [] l).length - (startL 0 0 [] l).length = 0 by omega]
  simp
theorem parts_block (l : List Ent) : partsL (blockL l) = some (bodyL 0 [] l, startL 0 0 [] l) := by
  have h := blockL_length l
  have h2 := start_cnt l
  have h3 := lastN_block l
  unfold partsL
  rw [h3, h, if_neg (by omega), show (bodyL 0 [] l).length + 2 * cntB l + 1 - 1 - 2 * cntB l = (bodyL 0 [] l).length by omega]
  simp only [blockL]
  rw [List.take_left' rfl, List.drop_left' rfl, List.take_left' h2]
theorem validB_iff (l : List Ent) (xs : List Int) : validB l xs = true ↔ mayB 255 l = true ∧ fitB 0 0 [] l = true ∧ blockL l = xs := by
  simp [validB, and_assoc]
theorem mayB_iff (most : Nat) (l : List Ent) : mayB most l = true ↔ 1 ≤ l.length ∧ l.length ≤ most ∧ okL [] l = true := by simp [mayB, and_assoc]
theorem allB_iff (xs : List Int) (l : List Ent) : allB xs = some l ↔ validB l xs = true ∧ l.map norm = l := by
  constructor
  · intro h
    unfold allB at h
    split at h
    · cases h
    · split at h
      · cases h
      · rename_i a b h1 m h2
        split at h
        · cases h
          exact ⟨by assumption, readB_norm _ _ _ _ _ h2⟩
        · cases h
  · rintro ⟨h1, h2⟩
    obtain ⟨m1, m2, rfl⟩ := (validB_iff l xs).1 h1
    obtain ⟨n1, n2, n3⟩ := (mayB_iff 255 l).1 m1
    simp only [allB, parts_block, readB_body l 255 0 [] (okL_fits l [] n3) n2, h2, h1, if_true]
theorem rallB_iff (xs : List Int) (l : List Ent) : rallB xs = some l ↔ validB l xs = true ∧ l.map norm = l := by
  constructor
  · intro h
    unfold rallB at h
    split at h
    · cases h
    · split at h
      · cases h
      · split at h
        · cases h
        · rename_i a b h1 _ m h2
          split at h
          · cases h
            exact ⟨by assumption, rreadB_norm _ _ _ _ h2⟩
          · cases h
  · rintro ⟨h1, h2⟩
    obtain ⟨m1, m2, rfl⟩ := (validB_iff l xs).1 h1
    obtain ⟨n1, n2, n3⟩ := (mayB_iff 255 l).1 m1
    simp only [rallB, parts_block, rreadB_body l 256 0 [] (okL_fits l [] n3) (by omega), h2, h1, if_true, lastN_block]
    rw [if_neg (by unfold cntB; omega)]
theorem rallB_eq (xs : List Int) : rallB xs = allB xs := by
  cases h : allB xs with
  | some l => exact (rallB_iff xs l).2 ((allB_iff xs l).1 h)
  | none =>
    cases h2 : rallB xs with
    | none => rfl
    | some l => rw [(allB_iff xs l).2 ((rallB_iff xs l).1 h2)] at h; cases h

/-- How far the program's reading has come. -/
def CameB (r0 : List Int) (i : Nat) (es : List Ent) (r : List Int) : Prop :=
  i ≤ 255 ∧ es.length = i ∧ readB 255 0 [] r0 = (readB (255 - i) i (lastK [] es) r).map (es ++ ·)
theorem CameB.start (r : List Int) : CameB r 0 [] r := by
  refine ⟨by omega, rfl, ?_⟩
  simp [lastK]
theorem CameB.full {r0 r : List Int} {es : List Ent} (h : CameB r0 255 es r) (hr : 0 < r.length) : readB 255 0 [] r0 = none := by
  obtain ⟨_, _, h3⟩ := h
  rw [h3, show 255 - 255 = 0 by omega, readB, if_neg (by omega)]; rfl
theorem CameB.no {r0 r : List Int} {i : Nat} {es : List Ent} (h : CameB r0 i es r) (hi : i < 255) (hr : 0 < r.length) (hp : parseB false (pre i (lastK [] es)) r = none) : readB 255 0 [] r0 = none := by
  obtain ⟨_, _, h3⟩ := h
  obtain ⟨m, hm⟩ : ∃ m, 255 - i = m + 1 := ⟨255 - i - 1, by omega⟩
  rw [h3, hm, readB, if_neg (by omega), hp]; rfl
theorem CameB.step {r0 r r' : List Int} {i : Nat} {es : List Ent} {e : Ent} (h : CameB r0 i es r) (hi : i < 255) (hr : 0 < r.length) (hp : parseB false (pre i (lastK [] es)) r = some (e, r')) : CameB r0 (i + 1) (es ++ [e]) r' := by
  obtain ⟨_, h2, h3⟩ := h
  obtain ⟨m, hm⟩ : ∃ m, 255 - i = m + 1 := ⟨255 - i - 1, by omega⟩
  refine ⟨by omega, by simp [h2], ?_⟩
  rw [h3, hm, readB, if_neg (by omega), hp, lastK_snoc, show 255 - (i + 1) = m by omega]
  simp only
  cases readB m (i + 1) e.k r' <;> simp
theorem CameB.done {r0 r : List Int} {i : Nat} {es : List Ent} (h : CameB r0 i es r) (hr : r.length = 0) : readB 255 0 [] r0 = some es := by
  obtain ⟨_, _, h3⟩ := h
  rw [h3]
  cases 255 - i <;> simp [readB, hr]
/-- How far the document's has come. -/
def CameR (r0 : List Int) (i : Nat) (es : List Ent) (r : List Int) : Prop :=
  i ≤ 256 ∧ es.length = i ∧ rreadB 256 [] r0 = (rreadB (256 - i) (lastK [] es) r).map (es ++ ·)
theorem CameR.start (r : List Int) : CameR r 0 [] r := by
  refine ⟨by omega, rfl, ?_⟩
  simp [lastK]
theorem CameR.no {r0 r : List Int} {i : Nat} {es : List Ent} (h : CameR r0 i es r) (hi : i < 256) (hr : 0 < r.length) (hp : parseB true (lastK [] es) r = none) : rreadB 256 [] r0 = none := by
  obtain ⟨_, _, h3⟩ := h
  obtain ⟨m, hm⟩ : ∃ m, 256 - i = m + 1 := ⟨256 - i - 1, by omega⟩
  rw [h3, hm, rreadB, if_neg (by omega), hp]; rfl
theorem CameR.step {r0 r r' : List Int} {i : Nat} {es : List Ent} {e : Ent} (h : CameR r0 i es r) (hi : i < 256) (hr : 0 < r.length) (hp : parseB true (lastK [] es) r = some (e, r')) : CameR r0 (i + 1) (es ++ [e]) r' := by
  obtain ⟨_, h2, h3⟩ := h
  obtain ⟨m, hm⟩ : ∃ m, 256 - i = m + 1 := ⟨256 - i - 1, by omega⟩
  refine ⟨by omega, by simp [h2], ?_⟩
  rw [h3, hm, rreadB, if_neg (by omega), hp, lastK_snoc, show 256 - (i + 1) = m by omega]
  simp only
  cases rreadB m e.k r' <;> simp
theorem CameR.done {r0 r : List Int} {i : Nat} {es : List Ent} (h : CameR r0 i es r) (hr : r.length = 0 ∨ ¬ i < 256) : rreadB 256 [] r0 = some es := by
  obtain ⟨h1, _, h3⟩ := h
  rw [h3]
  rcases hr with hr | hr
  · cases 256 - i <;> simp [rreadB, hr]
  · rw [show 256 - i = 0 by omega]; simp [rreadB]

end Go.Proofs.Ytdlkakkoaelemaa
