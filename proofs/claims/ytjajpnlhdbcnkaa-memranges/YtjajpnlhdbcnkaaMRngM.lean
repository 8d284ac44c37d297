/- What was put last is got; ranges that meet are the whole: plain facts. -/
import Derived.Test.YtjajpnlhdbcnkaaMMod
namespace Go.Proofs.Ytjajpnlhdbcnkaa
set_option maxRecDepth 100000
open Go.RowKit Go.Sort

theorem ins_get (e : Ent) (ks : List Int) : ∀ es : List Ent, getL (insR e es) ks = if e.k = ks then some e else getL es ks
  | [] => by
    by_cases h : e.k = ks
    · simp [insR, getL, h]
    · simp [insR, getL, h]
  | x :: l => by
    have ih := ins_get e ks l
    simp only [getL] at ih ⊢
    unfold insR
    by_cases h1 : lessB x.k e.k = true
    · rw [if_pos h1]
      by_cases hx : x.k = ks
      · have he : ¬ e.k = ks := fun h => by rw [hx, h, lessB_irr] at h1; cases h1
        rw [if_neg he, List.find?_cons_of_pos (by simpa using hx), List.find?_cons_of_pos (by simpa using hx)]
      · rw [List.find?_cons_of_neg (by simpa using hx), ih, List.find?_cons_of_neg (by simpa using hx)]
    · rw [if_neg h1]
      by_cases h2 : x.k = e.k
      · rw [if_pos h2]
        by_cases h : e.k = ks
        · rw [if_pos h, List.find?_cons_of_pos (by simpa using h)]
        · rw [if_neg h, List.find?_cons_of_neg (by simpa using h), List.find?_cons_of_neg (by rw [h2]; simpa using h)]
      · rw [if_neg h2]
        by_cases h : e.k = ks
        · rw [if_pos h, List.find?_cons_of_pos (by simpa using h)]
        · rw [if_neg h, List.find?_cons_of_neg (by simpa using h)]
theorem put_got (xs : List Ent) (i : Nat) (x : Ent) (hx : xs[i]? = some x) : ∀ j, i < j → j ≤ xs.length → (∃ y, getL (putL [] (xs.take j)) x.k = some y) ∧ ((∀ (k : Nat) (z : Ent), i < k → k < j → xs[k]? = some z → ¬ z.k = x.k) → getL (putL [] (xs.take j)) x.k = some (norm x)) := by
  intro j
  induction j with
  | zero => intro h; omega
  | succ j ih =>
    intro hij hj
    have hz : xs[j]? = some (xs[j]'(by omega)) := by simp
    rw [putL_take [] xs j _ hz, ins_get]
    by_cases hji : j = i
    · subst hji
      rw [hx] at hz
      have hzx := Option.some.inj hz
      rw [← hzx, norm_k, if_pos rfl]
      exact ⟨⟨_, rfl⟩, fun _ => rfl⟩
    · obtain ⟨h1, h2⟩ := ih (by omega) (by omega)
      by_cases hk : (norm (xs[j]'(by omega))).k = x.k
      · rw [if_pos hk]
        refine ⟨⟨_, rfl⟩, fun hall => ?_⟩
        rw [norm_k] at hk
        exact absurd hk (hall j _ (by omega) (by omega) hz)
      · rw [if_neg hk]
        exact ⟨h1, fun hall => h2 (fun k z hk1 hk2 hkz => hall k z hk1 (by omega) hkz)⟩
theorem plN_nil (es : List Ent) : plN es [] = 0 := by
  cases es with
  | nil => rfl
  | cons x es =>
    have : lessB x.k [] = false := by cases x.k <;> rfl
    simp [plN, this]
theorem ranges_meet {es : List Ent} (hr : Rises es) (c : List Int) (h : 0 < c.length) : es.filter (fun e => !delK [] c e.k) ++ es.filter (fun e => !delK c [] e.k) = es := by
  have hp := (place_of hr c).le
  rw [range_cut hr [] c, range_cut hr c [], plN_nil, if_pos h, if_neg (by simp)]
  rw [List.drop_zero, show max 0 (plN es c) - 0 = plN es c by omega, show max (plN es c) es.length - plN es c = es.length - plN es c by omega, List.take_of_length_le (l := es.drop (plN es c)) (by rw [List.length_drop]; omega), List.take_append_drop]
end Go.Proofs.Ytjajpnlhdbcnkaa
