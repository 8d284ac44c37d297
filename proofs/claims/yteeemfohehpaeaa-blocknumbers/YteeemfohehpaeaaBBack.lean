/- The walk of BlockBack: what was built is read, and each of its entries is found; what is sought between is the next one. -/
import Derived.Test.YteeemfohehpaeaaPE
import Derived.Test.YteeemfohehpaeaaBRise
namespace Go.Proofs.Yteeemfohehpaeaa
set_option maxRecDepth 100000
open Go.RowKit Go.Sort

theorem fitB_of : ∀ (l : List Ent) (i o : Nat) (p : List Int), o + (bodyL i p l).length ≤ 65535 → fitB i o p l = true
  | [], _, _, _, _ => rfl
  | e :: l, i, o, p, h => by
    simp only [bodyL, List.length_append] at h
    have := fitB_of l (i + 1) (o + (encB (pre i p) e).length) e.k (by omega)
    simp only [fitB, this, Bool.and_true, decide_eq_true_eq]
    omega
theorem body_small_of (n : Nat) : ∀ (l : List Ent) (i : Nat) (p : List Int), (∀ e ∈ l, 5 + e.k.length + e.v.length ≤ n) → (bodyL i p l).length ≤ n * l.length
  | [], _, _, _ => by simp [bodyL]
  | e :: l, i, p, h => by
    have h1 := h e (by simp)
    have h2 := body_small_of n l (i + 1) e.k (fun x hx => h x (by simp [hx]))
    have h3 := encB_length (pre i p) e
    simp only [bodyL, List.length_append, List.length_cons]
    rw [Nat.mul_succ]
    split at h3 <;> omega
theorem ins_mem (e : Ent) : ∀ (l : List Ent) (x : Ent), x ∈ insR e l → x = e ∨ x ∈ l
  | [], x, h => by simp [insR] at h; exact .inl h
  | y :: l, x, h => by
    unfold insR at h
    split at h
    · rcases List.mem_cons.1 h with rfl | h
      · exact .inr (by simp)
      · exact (ins_mem e l x h).imp_right (fun h => by simp [h])
    · split at h
      · rcases List.mem_cons.1 h with rfl | h
        · exact .inl rfl
        · exact .inr (by simp [h])
      · rcases List.mem_cons.1 h with rfl | h
        · exact .inl rfl
        · exact .inr h
theorem rise_mem_fold (l : List Ent) : ∀ (out : List Ent) (x : Ent), x ∈ l.foldl (fun out e => insR e out) out → x ∈ out ∨ x ∈ l := by
  induction l with
  | nil => intro out x h; exact .inl h
  | cons e l ih =>
    intro out x h
    rcases ih (insR e out) x h with h | h
    · rcases ins_mem e out x h with rfl | h
      · exact .inr (by simp)
      · exact .inl h
    · exact .inr (by simp [h])
theorem rise_mem (l : List Ent) (x : Ent) (h : x ∈ riseL l) : x ∈ l := by simpa using rise_mem_fold l [] x h
/-- What the statements draw. -/
structure Drawn (n : Nat) (m : List Ent) : Prop where
  len : m.length ≤ n
  ok : okL [] m = true
  small : ∀ e ∈ m, 1 ≤ e.k.length ∧ e.k.length ≤ 12 ∧ e.v.length ≤ 20
  normal : ∀ e ∈ m, norm e = e
theorem cut_parts (e : Ent) : 1 ≤ (cutE 12 20 e).k.length ∧ (cutE 12 20 e).k.length ≤ 12 ∧ (cutE 12 20 e).v.length ≤ 20 ∧ norm (cutE 12 20 e) = cutE 12 20 e := by
  obtain ⟨k, v, g⟩ := e
  refine ⟨?_, ?_, ?_, ?_⟩
  · show 1 ≤ (if (k.take 12).length = 0 then [107] else k.take 12).length
    split
    · simp
    · omega
  · show (if (k.take 12).length = 0 then [107] else k.take 12).length ≤ 12
    split
    · simp
    · rw [List.length_take]; omega
  · show (if g = true then [] else v.take 20).length ≤ 20
    split
    · simp
    · rw [List.length_take]; omega
  · cases g <;> simp [cutE, norm]
theorem cut_fits (e : Ent) : fitsE (cutE 12 20 e) = true := by
  obtain ⟨h1, h2, h3, _⟩ := cut_parts e
  rw [fitsE_iff]
  exact ⟨h1, by omega, .inr (by omega)⟩
theorem drawn_rise (n : Nat) (l : List Ent) : Drawn n (riseL (keepL n 12 20 l)) := by
  have hmem : ∀ e ∈ riseL (keepL n 12 20 l), ∃ x, e = cutE 12 20 x := fun e he => by
    have := rise_mem _ e he
    simp only [keepL, List.mem_map] at this
    obtain ⟨x, _, rfl⟩ := this
    exact ⟨x, rfl⟩
  refine ⟨?_, rise_ok _ (fun e he => ?_), fun e he => ?_, fun e he => ?_⟩
  · have := rise_len (keepL n 12 20 l)
    have h2 : (keepL n 12 20 l).length ≤ n := by simp only [keepL, List.length_map, List.length_take]; omega
    omega
  · simp only [keepL, List.mem_map] at he
    obtain ⟨x, _, rfl⟩ := he
    exact cut_fits x
  · obtain ⟨x, rfl⟩ := hmem e he
    obtain ⟨h1, h2, h3, _⟩ := cut_parts x
    exact ⟨h1, h2, h3⟩
  · obtain ⟨x, rfl⟩ := hmem e he
    exact (cut_parts x).2.2.2
theorem Drawn.may {n : Nat} {m : List Ent} (h : Drawn n m) (hn : n ≤ 255) (h0 : 1 ≤ m.length) : mayB 255 m = true := (mayB_iff 255 m).2 ⟨h0, by have := h.len; omega, h.ok⟩
theorem Drawn.body {n : Nat} {m : List Ent} (h : Drawn n m) : (bodyL 0 [] m).length ≤ 37 * m.length := body_small_of 37 m 0 [] (fun e he => by have := h.small e he; omega)
theorem Drawn.fit {n : Nat} {m : List Ent} (h : Drawn n m) (hn : n ≤ 255) : fitB 0 0 [] m = true := fitB_of m 0 0 [] (by have := h.body; have := h.len; omega)
theorem Drawn.back {n : Nat} {m : List Ent} (h : Drawn n m) (hn : n ≤ 255) (h0 : 1 ≤ m.length) : allB (blockL m) = some m :=
  (allB_iff _ m).2 ⟨(validB_iff _ _).2 ⟨h.may hn h0, h.fit hn, rfl⟩, by
    have : m.map norm = m.map id := List.map_congr_left (fun e he => by rw [h.normal e he]; rfl)
    rw [this, List.map_id]⟩
theorem Drawn.block {n : Nat} {m : List Ent} (h : Drawn n m) (hn : n ≤ 255) : (blockL m).length ≤ 20000 := by
  have := h.body; have := h.len
  rw [blockL_length]; unfold cntB; omega
theorem Drawn.keys {n : Nat} {m : List Ent} (h : Drawn n m) : ∀ e ∈ m, e.k.length ≤ 1000000000000 := fun e he => by have := h.small e he; omega

theorem less_next : ∀ (a b : List Int), (∀ x ∈ b, 0 ≤ x) → lessB a b = true → lessB b (a ++ [0]) = false
  | _, [], _, h => by simp [lessB] at h
  | [], y :: b, hb, _ => by
    have := hb y (by simp)
    cases b <;> simp [lessB] <;> omega
  | x :: a, y :: b, hb, h => by
    simp only [lessB, Bool.or_eq_true, decide_eq_true_eq, Bool.and_eq_true, beq_iff_eq] at h
    simp only [List.cons_append, lessB, Bool.or_eq_false_iff, decide_eq_false_iff_not, Bool.and_eq_false_imp, beq_iff_eq]
    rcases h with h | ⟨rfl, h⟩
    · exact ⟨by omega, fun e => by omega⟩
    · exact ⟨by omega, fun _ => less_next a b (fun z hz => hb z (by simp [hz])) h⟩
theorem less_self_next {a b : List Int} (h : lessB a b = true) : lessB a (b ++ [0]) = true := lessB_trans _ _ _ h (lessB_snoc b)
theorem seek_self {m : List Ent} (h : okL [] m = true) (i : Nat) (e : Ent) (he : m[i]? = some e) : seekL m e.k = some e :=
  seek_at m e.k i e he (fun j y hj hy => okL_lt m [] h j i y e hj hy he) (lessB_irr _)
theorem seek_next {m : List Ent} (h : okL [] m = true) (i : Nat) (e x : Ent) (he : m[i]? = some e) (hx : m[i + 1]? = some x) (hb : ∀ z ∈ x.k, 0 ≤ z) : seekL m (e.k ++ [0]) = some x := by
  have hex := okL_lt m [] h i (i + 1) e x (by omega) he hx
  refine seek_at m _ (i + 1) x hx (fun j y hj hy => ?_) (less_next _ _ hb hex)
  by_cases hji : j = i
  · subst hji; rw [he] at hy; cases hy; exact lessB_snoc _
  · exact less_self_next (okL_lt m [] h j i y e (by omega) hy he)
theorem seek_past {m : List Ent} (h : okL [] m = true) (i : Nat) (e : Ent) (he : m[i]? = some e) (hi : i + 1 = m.length) : seekL m (e.k ++ [0]) = none := by
  refine seek_none m _ (fun j y hj hy => ?_)
  by_cases hji : j = i
  · subst hji; rw [he] at hy; cases hy; exact lessB_snoc _
  · exact less_self_next (okL_lt m [] h j i y e (by omega) hy he)

theorem seek_yes (ao : Option Addr) (la ca : Nat) (xs : List Int) (bo : Option Addr) (lb cb : Nat) (ks : List Int) (w : World) (ha : Tx w ao la ca xs) (hk : Tx w bo lb cb ks) (sa : la ≤ 900000000) (sk : lb ≤ 900000000) (m : List Ent) (hm : allB xs = some m) (en : Ent) (hs : seekL m ks = some en) :
    Calls Try.prog 30 #[.slice ao la ca, .slice bo lb cb] w fun e w' => ∃ ko kl kc vo vl vc, e = .returned (.tuple #[.agg #[.slice ko kl kc, .slice vo vl vc, .bool en.g], .bool true]) ∧ Tx w' ko kl kc en.k ∧ Tx w' vo vl vc en.v ∧ Below w.heap.size w w' := by
  refine (seek_any ao la ca xs bo lb cb ks w ha hk sa sk).mono ?_
  have he : entsOf xs = m := by unfold entsOf; rw [hm]; rfl
  rintro e w' ⟨⟨en', ko, kl, kc, vo, vl, vc, h1, rfl, tk, tv⟩ | ⟨h1, _⟩, hb⟩
  · rw [he, hs] at h1; cases h1; exact ⟨ko, kl, kc, vo, vl, vc, rfl, tk, tv, hb⟩
  · rw [he, hs] at h1; cases h1
theorem seek_no (ao : Option Addr) (la ca : Nat) (xs : List Int) (bo : Option Addr) (lb cb : Nat) (ks : List Int) (w : World) (ha : Tx w ao la ca xs) (hk : Tx w bo lb cb ks) (sa : la ≤ 900000000) (sk : lb ≤ 900000000) (m : List Ent) (hm : allB xs = some m) (hs : seekL m ks = none) :
    Calls Try.prog 30 #[.slice ao la ca, .slice bo lb cb] w fun e w' => e = .returned (.tuple #[.agg #[.slice none 0 0, .slice none 0 0, .bool false], .bool false]) ∧ Below w.heap.size w w' := by
  refine (seek_any ao la ca xs bo lb cb ks w ha hk sa sk).mono ?_
  have he : entsOf xs = m := by unfold entsOf; rw [hm]; rfl
  rintro e w' ⟨⟨en', ko, kl, kc, vo, vl, vc, h1, _⟩ | ⟨_, h1⟩, hb⟩
  · rw [he, hs] at h1; cases h1
  · exact ⟨h1, hb⟩

end Go.Proofs.Yteeemfohehpaeaa
