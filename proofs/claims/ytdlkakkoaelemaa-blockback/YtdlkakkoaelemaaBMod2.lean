/- Entries put in order, and sought: plain facts. -/
import Derived.Test.YtdlkakkoaelemaaBMod
namespace Go.Proofs.Ytdlkakkoaelemaa

theorem lessB_tri : ∀ (a b : List Int), lessB a b = true ∨ a = b ∨ lessB b a = true
  | [], [] => .inr (.inl rfl)
  | [], _ :: _ => .inl (by simp [lessB])
  | _ :: _, [] => .inr (.inr (by simp [lessB]))
  | x :: a, y :: b => by
    by_cases h : x < y
    · exact .inl (by simp [lessB, h])
    · by_cases h2 : y < x
      · exact .inr (.inr (by simp [lessB, h2]))
      · have e : x = y := by omega
        subst e
        rcases lessB_tri a b with h | h | h
        · exact .inl (by simp [lessB, h])
        · exact .inr (.inl (by rw [h]))
        · exact .inr (.inr (by simp [lessB, h]))
theorem lessB_irr : ∀ a : List Int, lessB a a = false
  | [] => rfl
  | x :: a => by simp [lessB, lessB_irr a]
theorem lessB_trans : ∀ (a b c : List Int), lessB a b = true → lessB b c = true → lessB a c = true
  | a, b, [], _, h => by cases b <;> simp [lessB] at h
  | [], _, _ :: _, _, _ => by simp [lessB]
  | x :: a, [], _ :: _, h, _ => by simp [lessB] at h
  | x :: a, y :: b, z :: c, h, k => by
    simp only [lessB, Bool.or_eq_true, decide_eq_true_eq, Bool.and_eq_true, beq_iff_eq] at h k ⊢
    rcases h with h | ⟨rfl, h⟩
    · rcases k with k | ⟨rfl, k⟩
      · exact .inl (by omega)
      · exact .inl h
    · rcases k with k | ⟨rfl, k⟩
      · exact .inl k
      · exact .inr ⟨rfl, lessB_trans a b c h k⟩
theorem lessB_snoc : ∀ (a : List Int), lessB a (a ++ [0]) = true
  | [] => by simp [lessB]
  | x :: a => by simp [lessB, lessB_snoc a]

/-- One more, in its place. -/
def insR (e : Ent) : List Ent → List Ent
  | [] => [e]
  | x :: l => if lessB x.k e.k = true then x :: insR e l else if x.k = e.k then e :: l else e :: x :: l
def riseL (l : List Ent) : List Ent := l.foldl (fun out e => insR e out) []
theorem okL_ins (e : Ent) (hf : fitsE e = true) : ∀ (l : List Ent) (p : List Int), okL p l = true → lessB p e.k = true → okL p (insR e l) = true
  | [], p, _, h => by simp [insR, okL, hf, h]
  | x :: l, p, h, hp => by
    simp only [okL, Bool.and_eq_true] at h
    obtain ⟨⟨h1, h2⟩, h3⟩ := h
    unfold insR
    split
    · rename_i hx
      simp only [okL, h1, h2, okL_ins e hf l x.k h3 hx, Bool.and_self]
    · split
      · rename_i hx he
        rw [he] at h3
        simp only [okL, hf, hp, h3, Bool.and_self]
      · rename_i hx he
        have := (lessB_tri x.k e.k).resolve_left hx
        have := this.resolve_left he
        simp only [okL, hf, hp, h1, this, h3, Bool.and_self]
theorem ins_len (e : Ent) : ∀ l : List Ent, (insR e l).length ≤ l.length + 1 ∧ 1 ≤ (insR e l).length
  | [] => by simp [insR]
  | x :: l => by
    have := ins_len e l
    unfold insR
    split
    · simp only [List.length_cons]; omega
    · split <;> simp
theorem rise_fold (l : List Ent) (h : ∀ e ∈ l, fitsE e = true) : ∀ out, okL [] out = true → okL [] (l.foldl (fun out e => insR e out) out) = true := by
  induction l with
  | nil => intro out ho; exact ho
  | cons e l ih =>
    intro out ho
    have he := h e (by simp)
    have hpos : lessB [] e.k = true := by
      have := ((fitsE_iff e).1 he).1
      cases hk : e.k with
      | nil => rw [hk] at this; simp at this
      | cons a r => simp [lessB]
    exact ih (fun x hx => h x (by simp [hx])) _ (okL_ins e he out [] ho hpos)
theorem rise_ok (l : List Ent) (h : ∀ e ∈ l, fitsE e = true) : okL [] (riseL l) = true := rise_fold l h [] rfl
theorem rise_len_fold (l : List Ent) : ∀ out, (l.foldl (fun out e => insR e out) out).length ≤ out.length + l.length := by
  induction l with
  | nil => intro out; simp
  | cons e l ih =>
    intro out
    have h1 := ih (insR e out)
    have h2 := (ins_len e out).1
    simp only [List.foldl_cons, List.length_cons] at h1 ⊢; omega
theorem rise_len (l : List Ent) : (riseL l).length ≤ l.length := by simpa [riseL] using rise_len_fold l []
theorem rise_snoc (l : List Ent) (e : Ent) : riseL (l ++ [e]) = insR e (riseL l) := by simp [riseL]

/-- How insR goes, by its place. -/
theorem ins_set (e : Ent) : ∀ (l : List Ent) (k : Nat) (x : Ent), (∀ (j : Nat) (y : Ent), j < k → l[j]? = some y → lessB y.k e.k = true) → l[k]? = some x → x.k = e.k → insR e l = l.set k e
  | [], k, x, _, h, _ => by simp at h
  | y :: l, 0, x, _, h, hx => by
    simp at h
    subst h
    simp [insR, hx, lessB_irr]
  | y :: l, k + 1, x, hl, h, hx => by
    have := ins_set e l k x (fun j z hj hz => hl (j + 1) z (by omega) (by simpa using hz)) (by simpa using h) hx
    have hy := hl 0 y (by omega) rfl
    simp [insR, hy, this]
theorem ins_mid (e : Ent) : ∀ (l : List Ent) (k : Nat), k ≤ l.length → (∀ (j : Nat) (y : Ent), j < k → l[j]? = some y → lessB y.k e.k = true) → (∀ x, l[k]? = some x → lessB x.k e.k = false ∧ ¬ x.k = e.k) → insR e l = l.take k ++ [e] ++ l.drop k
  | [], k, hk, _, _ => by
    have : k = 0 := by simpa using hk
    subst this; rfl
  | y :: l, 0, _, _, h => by
    obtain ⟨h1, h2⟩ := h y rfl
    simp [insR, h1, h2]
  | y :: l, k + 1, hk, hl, h => by
    have := ins_mid e l k (by simpa using hk) (fun j z hj hz => hl (j + 1) z (by omega) (by simpa using hz)) (fun x hx => h x (by simpa using hx))
    have hy := hl 0 y (by omega) rfl
    simp [insR, hy, this]

/-- The first that does not stand ahead. -/
def seekL (l : List Ent) (ks : List Int) : Option Ent := l.find? (fun e => !lessB e.k ks)
def entsOf (xs : List Int) : List Ent := (allB xs).getD []
theorem seek_at : ∀ (l : List Ent) (ks : List Int) (k : Nat) (e : Ent), l[k]? = some e → (∀ (j : Nat) (y : Ent), j < k → l[j]? = some y → lessB y.k ks = true) → lessB e.k ks = false → seekL l ks = some e
  | [], _, k, e, h, _, _ => by simp at h
  | y :: l, ks, 0, e, h, _, hl => by
    simp at h
    subst h
    simp [seekL, hl]
  | y :: l, ks, k + 1, e, h, hb, hl => by
    have := seek_at l ks k e (by simpa using h) (fun j z hj hz => hb (j + 1) z (by omega) (by simpa using hz)) hl
    have hy := hb 0 y (by omega) rfl
    simp only [seekL] at this ⊢
    simp [hy, this]
theorem seek_none (l : List Ent) (ks : List Int) (h : ∀ (j : Nat) (y : Ent), j < l.length → l[j]? = some y → lessB y.k ks = true) : seekL l ks = none := by
  rw [seekL, List.find?_eq_none]
  intro x hx
  obtain ⟨i, hi, rfl⟩ := List.getElem_of_mem hx
  simp [h i l[i] hi (by simp)]
/-- Of entries that rise: what stands ahead of another. -/
theorem okL_all : ∀ (l : List Ent) (p : List Int), okL p l = true → ∀ (j : Nat) (y : Ent), l[j]? = some y → lessB p y.k = true
  | [], _, _, j, y, h => by simp at h
  | x :: l, p, h, 0, y, hy => by
    simp at hy
    subst hy
    simp only [okL, Bool.and_eq_true] at h
    exact h.1.2
  | x :: l, p, h, j + 1, y, hy => by
    simp only [okL, Bool.and_eq_true] at h
    exact lessB_trans _ _ _ h.1.2 (okL_all l x.k h.2 j y (by simpa using hy))
theorem okL_lt : ∀ (l : List Ent) (p : List Int), okL p l = true → ∀ (i j : Nat) (x y : Ent), i < j → l[i]? = some x → l[j]? = some y → lessB x.k y.k = true
  | [], _, _, i, j, x, y, _, h, _ => by simp at h
  | a :: l, p, h, 0, j + 1, x, y, _, hx, hy => by
    simp at hx
    subst hx
    simp only [okL, Bool.and_eq_true] at h
    exact okL_all l a.k h.2 j y (by simpa using hy)
  | a :: l, p, h, i + 1, j + 1, x, y, hij, hx, hy => by
    simp only [okL, Bool.and_eq_true] at h
    exact okL_lt l a.k h.2 i j x y (by omega) (by simpa using hx) (by simpa using hy)
  | _ :: _, _, _, _, 0, _, _, h, _, _ => by omega

end Go.Proofs.Ytdlkakkoaelemaa
