/- A list in order, as plain data: places by halves, what comes in, what is told. -/
import Derived.Test.YtjbppedphadenaaMBase
namespace Go.Proofs.Ytjbppedphadenaa
set_option maxRecDepth 100000
open Go.RowKit Go.Sort

/-- The place n: all ahead of it stand ahead of the Key, no other does. -/
structure PlaceE (es : List Ent) (ks : List Int) (n : Nat) : Prop where
  le : n ≤ es.length
  lo : ∀ (j : Nat) (y : Ent), j < n → es[j]? = some y → lessB y.k ks = true
  hi : ∀ (j : Nat) (y : Ent), n ≤ j → es[j]? = some y → lessB y.k ks = false
/-- How many stand ahead of it. -/
def plN (es : List Ent) (ks : List Int) : Nat := (es.takeWhile (fun e => lessB e.k ks)).length
theorem PlaceE.eq {es : List Ent} {ks : List Int} {n : Nat} (h : PlaceE es ks n) : plN es ks = n := by
  induction es generalizing n with
  | nil => have := h.le; simp at this; subst this; rfl
  | cons x es ih =>
    cases n with
    | zero =>
      have := h.hi 0 x (Nat.le_refl _) rfl
      simp [plN, this]
    | succ n =>
      have hx := h.lo 0 x (by omega) rfl
      have := ih (n := n) ⟨by have := h.le; simp at this; omega, fun j y hj hy => h.lo (j + 1) y (by omega) (by simpa using hy), fun j y hj hy => h.hi (j + 1) y (by omega) (by simpa using hy)⟩
      simp only [plN] at this ⊢
      simp [hx, this]
/-- Of entries that rise. -/
def Rises (es : List Ent) : Prop := ∀ (i j : Nat) (x y : Ent), i < j → es[i]? = some x → es[j]? = some y → lessB x.k y.k = true
theorem rises_of {es : List Ent} (h : okL [] es = true) : Rises es := okL_lt es [] h
theorem lessB_of_lt {a b c : List Int} (h : lessB a b = true) (hc : lessB b c = true) : lessB a c = true := lessB_trans _ _ _ h hc
theorem PlaceE.of {es : List Ent} (hr : Rises es) (ks : List Int) : ∀ (m : Nat), m ≤ es.length → (∀ (j : Nat) (y : Ent), j < m → es[j]? = some y → lessB y.k ks = true) → ∃ n, PlaceE es ks n := by
  intro m hm
  induction hd : es.length - m generalizing m with
  | zero =>
    intro h
    exact ⟨m, hm, h, fun j y hj hy => by have := (List.getElem?_eq_some_iff.1 hy).1; omega⟩
  | succ d ih =>
    intro h
    have hx : es[m]? = some (es[m]'(by omega)) := by simp
    cases hl : lessB (es[m]'(by omega)).k ks with
    | true =>
      exact ih (m + 1) (by omega) (by omega) (fun j y hj hy => by
        by_cases hjm : j = m
        · subst hjm; rw [hx] at hy; cases hy; exact hl
        · exact h j y (by omega) hy)
    | false =>
      refine ⟨m, hm, h, fun j y hj hy => ?_⟩
      by_cases hjm : m = j
      · subst hjm; rw [hx] at hy; cases hy; exact hl
      · cases hh : lessB y.k ks with
        | false => rfl
        | true => have := lessB_trans _ _ _ (hr m j _ y (by omega) hx hy) hh; rw [hl] at this; cases this
theorem place_of {es : List Ent} (hr : Rises es) (ks : List Int) : PlaceE es ks (plN es ks) := by
  obtain ⟨n, h⟩ := PlaceE.of hr ks 0 (by omega) (fun j y hj => by omega)
  rw [h.eq]; exact h
/-- Is an entry of that Key there? -/
def isAt (es : List Ent) (ks : List Int) : Bool := match es[plN es ks]? with | some x => x.k == ks | none => false
theorem isAt_some {es : List Ent} {ks : List Int} {x : Ent} {n : Nat} (h : es[n]? = some x) (hn : plN es ks = n) : isAt es ks = (x.k == ks) := by rw [isAt, hn, h]
theorem isAt_end {es : List Ent} {ks : List Int} (h : es.length ≤ plN es ks) : isAt es ks = false := by
  rw [isAt, List.getElem?_eq_none h]
theorem isAt_true {es : List Ent} {ks : List Int} (h : isAt es ks = true) : ∃ x, es[plN es ks]? = some x ∧ x.k = ks := by
  unfold isAt at h
  split at h
  · rename_i x hx; exact ⟨x, hx, by simpa using h⟩
  · cases h
theorem ins_there {es : List Ent} (hr : Rises es) (e : Ent) (h : isAt es e.k = true) : insR e es = es.set (plN es e.k) e := by
  obtain ⟨x, hx, hk⟩ := isAt_true h
  exact ins_set e es _ x (place_of hr e.k).lo hx hk
theorem ins_new {es : List Ent} (hr : Rises es) (e : Ent) (h : isAt es e.k = false) : insR e es = es.take (plN es e.k) ++ [e] ++ es.drop (plN es e.k) := by
  have hp := place_of hr e.k
  refine ins_mid e es _ hp.le hp.lo (fun x hx => ⟨hp.hi _ x (Nat.le_refl _) hx, fun hk => ?_⟩)
  rw [isAt_some hx rfl, hk] at h; simp at h
theorem isAt_of {es : List Ent} (hr : Rises es) {ks : List Int} {n : Nat} {x : Ent} (hx : es[n]? = some x) (hk : x.k = ks) : plN es ks = n ∧ isAt es ks = true := by
  have hp : PlaceE es ks n := by
    refine ⟨by have := (List.getElem?_eq_some_iff.1 hx).1; omega, fun j y hj hy => by have := hr j n y x hj hy hx; rwa [hk] at this, fun j y hj hy => ?_⟩
    by_cases hjn : n = j
    · subst hjn; rw [hx] at hy; cases hy; rw [hk, lessB_irr]
    · cases hh : lessB y.k ks with
      | false => rfl
      | true => have := lessB_trans _ _ _ (hr n j x y (by omega) hx hy) hh; rw [hk, lessB_irr] at this; cases this
  have he := hp.eq
  exact ⟨he, by rw [isAt_some hx he, hk]; simp⟩
theorem getL_is {es : List Ent} (hr : Rises es) {ks : List Int} (h : isAt es ks = true) : ∃ x, es[plN es ks]? = some x ∧ getL es ks = some x := by
  obtain ⟨x, hx, hk⟩ := isAt_true h
  refine ⟨x, hx, getL_at hx hk (fun y hy => ?_)⟩
  obtain ⟨i, hi, rfl⟩ := List.getElem_of_mem hy
  rw [List.length_take] at hi
  have h1 : es[i]? = some (es[i]'(by omega)) := by simp
  have := (place_of hr ks).lo i _ (by omega) h1
  intro he
  rw [List.getElem_take] at he
  rw [he, lessB_irr] at this; cases this
theorem getL_not {es : List Ent} (hr : Rises es) {ks : List Int} (h : isAt es ks = false) : getL es ks = none := by
  refine getL_none (fun e he hk => ?_)
  obtain ⟨i, hi, rfl⟩ := List.getElem_of_mem he
  have h1 : es[i]? = some es[i] := by simp
  obtain ⟨_, h3⟩ := isAt_of hr h1 hk
  rw [h3] at h; cases h

/-- Between two Keys. -/
theorem filt_none {p : Ent → Bool} {l : List Ent} (h : ∀ e ∈ l, p e = false) : l.filter p = [] := by
  rw [List.filter_eq_nil_iff]; intro e he; rw [h e he]; simp
theorem filt_all {p : Ent → Bool} {l : List Ent} (h : ∀ e ∈ l, p e = true) : l.filter p = l := by
  rw [List.filter_eq_self]; exact h
theorem range_cut {es : List Ent} (hr : Rises es) (fs ts : List Int) :
    es.filter (fun e => !delK fs ts e.k) = (es.drop (plN es fs)).take (max (plN es fs) (if 0 < ts.length then plN es ts else es.length) - plN es fs) := by
  have hb := place_of hr fs
  generalize plN es fs = b at hb
  obtain ⟨E, hE⟩ : ∃ E, E = (if 0 < ts.length then plN es ts else es.length) := ⟨_, rfl⟩
  have hEl : E ≤ es.length := by
    rw [hE]; split
    · exact (place_of hr ts).le
    · exact Nat.le_refl _
  have hlo : ∀ (j : Nat) (y : Ent), j < E → es[j]? = some y → (decide (0 < ts.length) && !lessB y.k ts) = false := fun j y hj hy => by
    by_cases h0 : 0 < ts.length
    · rw [if_pos h0] at hE
      have := (place_of hr ts).lo j y (by omega) hy
      simp [this]
    · simp [h0]
  have hhi : ∀ (j : Nat) (y : Ent), E ≤ j → es[j]? = some y → (decide (0 < ts.length) && !lessB y.k ts) = true := fun j y hj hy => by
    by_cases h0 : 0 < ts.length
    · rw [if_pos h0] at hE
      have := (place_of hr ts).hi j y (by omega) hy
      simp [h0, this]
    · rw [if_neg h0] at hE
      have := (List.getElem?_eq_some_iff.1 hy).1; omega
  rw [← hE]
  clear hE
  have h1 : es = es.take b ++ ((es.drop b).take (max b E - b) ++ es.drop (max b E)) := by
    have h2 : (es.drop b).drop (max b E - b) = es.drop (max b E) := by rw [List.drop_drop]; congr 1; omega
    rw [← h2, List.take_append_drop, List.take_append_drop]
  have e1 : (es.take b).filter (fun e => !delK fs ts e.k) = [] := filt_none (fun e he => by
    obtain ⟨i, hi, rfl⟩ := List.getElem_of_mem he
    rw [List.length_take] at hi
    rw [List.getElem_take]
    have := hb.lo i (es[i]'(by omega)) (by omega) (by simp)
    simp [delK, this])
  have e2 : ((es.drop b).take (max b E - b)).filter (fun e => !delK fs ts e.k) = (es.drop b).take (max b E - b) := filt_all (fun e he => by
    obtain ⟨i, hi, rfl⟩ := List.getElem_of_mem he
    rw [List.length_take, List.length_drop] at hi
    rw [List.getElem_take, List.getElem_drop]
    have h3 := hb.hi (b + i) (es[b + i]'(by omega)) (by omega) (by simp)
    have h4 := hlo (b + i) (es[b + i]'(by omega)) (by omega) (by simp)
    simp only [delK, h3, h4]; rfl)
  have e3 : (es.drop (max b E)).filter (fun e => !delK fs ts e.k) = [] := filt_none (fun e he => by
    obtain ⟨i, hi, rfl⟩ := List.getElem_of_mem he
    rw [List.length_drop] at hi
    rw [List.getElem_drop]
    have h4 := hhi (max b E + i) (es[max b E + i]'(by omega)) (by omega) (by simp)
    simp only [delK, h4]; simp)
  conv => lhs; rw [h1]
  rw [List.filter_append, List.filter_append, e1, e2, e3, List.nil_append, List.append_nil]

/-- Put: each in the place of what has its Key; of one that is Gone no Value. -/
def putL (es l : List Ent) : List Ent := l.foldl (fun out e => insR (norm e) out) es
theorem putL_snoc (es l : List Ent) (e : Ent) : putL es (l ++ [e]) = insR (norm e) (putL es l) := by simp [putL]
theorem putL_take (es l : List Ent) (i : Nat) (e : Ent) (h : l[i]? = some e) : putL es (l.take (i + 1)) = insR (norm e) (putL es (l.take i)) := by rw [take_snoc l i e h, putL_snoc]
theorem norm_g (e : Ent) : (norm e).g = e.g := by
  unfold norm; split
  · rename_i h; rw [h]
  · rfl
theorem norm_fits {e : Ent} (h : fitsE e = true) : fitsE (norm e) = true := by
  obtain ⟨k, v, g⟩ := e
  cases g <;> simp_all [norm, fitsE]
theorem lessB_nil {ks : List Int} (h : 1 ≤ ks.length) : lessB [] ks = true := by
  cases ks with
  | nil => simp at h
  | cons a r => simp [lessB]
theorem putL_ok : ∀ (l es : List Ent), (∀ e ∈ l, fitsE e = true) → okL [] es = true → okL [] (putL es l) = true
  | [], es, _, h => h
  | e :: l, es, hf, h => by
    have he := norm_fits (hf e (by simp))
    exact putL_ok l _ (fun x hx => hf x (by simp [hx])) (okL_ins (norm e) he es [] h (lessB_nil ((fitsE_iff _).1 he).1))
theorem putL_len : ∀ (l es : List Ent), (putL es l).length ≤ es.length + l.length
  | [], es => by simp [putL]
  | e :: l, es => by
    have h1 := putL_len l (insR (norm e) es)
    have h2 := (ins_len (norm e) es).1
    simp only [putL, List.foldl_cons, List.length_cons] at h1 ⊢; omega
theorem putL_mem : ∀ (l es : List Ent) (x : Ent), x ∈ putL es l → x ∈ es ∨ ∃ e ∈ l, x = norm e
  | [], es, x, h => .inl h
  | e :: l, es, x, h => by
    rcases putL_mem l (insR (norm e) es) x h with h | ⟨y, hy, rfl⟩
    · rcases ins_mem _ _ _ h with rfl | h
      · exact .inr ⟨e, by simp, rfl⟩
      · exact .inl h
    · exact .inr ⟨y, by simp [hy], rfl⟩
/-- What a Mem holds: entries that rise, none Gone with a Value. -/
structure Held (n : Nat) (es : List Ent) : Prop where
  ok : okL [] es = true
  nm : ∀ e ∈ es, norm e = e
  len : es.length ≤ n
theorem Held.nil : Held 0 [] := ⟨rfl, by simp, Nat.le_refl _⟩
theorem Held.put {n : Nat} {es : List Ent} (h : Held n es) (l : List Ent) (hf : ∀ e ∈ l, fitsE e = true) : Held (n + l.length) (putL es l) :=
  ⟨putL_ok l es hf h.ok, fun e he => by
    rcases putL_mem l es e he with h1 | ⟨y, _, rfl⟩
    · exact h.nm e h1
    · exact norm_norm y, by have := putL_len l es; have := h.len; omega⟩
theorem Held.mono {n m : Nat} {es : List Ent} (h : Held n es) (hm : n ≤ m) : Held m es := ⟨h.ok, h.nm, Nat.le_trans h.len hm⟩
theorem Held.rises {n : Nat} {es : List Ent} (h : Held n es) : Rises es := rises_of h.ok
theorem Held.fits {n : Nat} {es : List Ent} (h : Held n es) : ∀ e ∈ es, fitsE e = true := okL_fits es [] h.ok
end Go.Proofs.Ytjbppedphadenaa
