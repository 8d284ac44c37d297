/- The document's reader, whatever is left: what its numbers and texts are. -/
import Derived.Test.YteeemfohehpaeaaBWalksF
import Derived.Test.YteeemfohehpaeaaPD
namespace Go.Proofs.Yteeemfohehpaeaa
set_option maxRecDepth 100000
open Go.RowKit

theorem Rf.new (w : World) (ao : Option Addr) (la ca : Nat) (xs : List Int) (ha : Tx w ao la ca xs) : Rf w (w.alloc (.cells #[.slice ao la ca, .bool false] 87)) w.heap.size ao la ca false xs := by
  have h : ∀ j u, [.slice ao la ca, .bool false][j]? = some u → (w.alloc (.cells #[.slice ao la ca, .bool false] 87)).cell? ⟨w.heap.size, j, none⟩ = some u := fun j u hu => by
    rw [cell_of_row _ w.heap.size j _ 87 (0, 0) (heap_alloc_new w _)]
    simpa using hu
  exact ⟨h 0 _ rfl, h 1 _ rfl, fun j => frozen_of_row _ w.heap.size j _ 87 (heap_alloc_new w _), ha, (Below.refl _ _).alloc (Nat.le_refl _) _, Nat.le_refl _⟩

/-- The reader's state: fine, with r left, or bytes have lacked. -/
structure St (w V : World) (rb : Nat) (bad : Bool) (r : List Int) : Prop where
  rf : ∃ ro rl rc, Rf w V rb ro rl rc bad r ∧ rl ≤ 900000000 ∧ (bad = false → ∃ b o, ro = some ⟨b, o, none⟩)
  nil : bad = true → r = []
theorem St.off {S : List Nat} {w V V' : World} {rb : Nat} {bad : Bool} {r : List Int} (h : St w V rb bad r) (ho : Off S V V') (hn : rb ∉ S) (hs : ∀ k ∈ S, w.heap.size ≤ k) : St w V' rb bad r := by
  obtain ⟨ro, rl, rc, h1, h2, h3⟩ := h.rf
  exact ⟨⟨ro, rl, rc, h1.off ho hn hs, h2, h3⟩, h.nil⟩
theorem St.later {w V V' : World} {rb : Nat} {bad : Bool} {r : List Int} (h : St w V rb bad r) (hb : Below V.heap.size V V') : St w V' rb bad r := h.off (S := []) (.of_below hb) (by simp) (by simp)
theorem St.lt {w V : World} {rb : Nat} {bad : Bool} {r : List Int} (h : St w V rb bad r) : rb < V.heap.size := by
  obtain ⟨ro, rl, rc, h1, _⟩ := h.rf
  exact h1.lt
theorem St.bad {w V : World} {rb : Nat} {bad : Bool} {r : List Int} (h : St w V rb bad r) : V.cell? ⟨rb, 1, none⟩ = some (.bool bad) := by
  obtain ⟨ro, rl, rc, h1, _⟩ := h.rf
  exact h1.c1
theorem St.bel {w V : World} {rb : Nat} {bad : Bool} {r : List Int} (h : St w V rb bad r) : Below w.heap.size w V := by
  obtain ⟨ro, rl, rc, h1, _⟩ := h.rf
  exact h1.bel

theorem num_st (w V : World) (rb : Nat) (bad : Bool) (r : List Int) (K : Int) (k : Nat) (hK : K = (k : Int)) (hk0 : 0 < k) (hk : k ≤ 8) (f : List Int → Int) (top : Int) (ht0 : 0 ≤ top) (ht : top ≤ 65535) (hf : Bytes r → ¬ r.length < k → getN r k = f r) (f0 : Bytes r → 0 ≤ f r ∧ f r ≤ top) (h : St w V rb bad r) :
    Calls Try.prog 53 #[.pointer (some ⟨rb, 0, none⟩), .int .i64 K] V fun e V' => ∃ v bad' r', e = .returned (.int .i64 v) ∧ 0 ≤ v ∧ v ≤ top ∧ St w V' rb bad' r' ∧ Off [rb] V V' ∧ ((bad = false ∧ bad' = false ∧ numB k f r = some (v, r')) ∨ (bad' = true ∧ (bad = true ∨ numB k f r = none))) := by
  obtain ⟨ro, rl, rc, h1, h2, h3⟩ := h.rf
  have hby : Bytes r := h1.tx.rng
  have hl := h1.tx.len_eq
  refine (rnum_any w rb ro rl rc bad r K k hK hk0 hk f hf (fun hb => by have := f0 hb; omega) V h1 h2).mono ?_
  rintro e V' (⟨v, b, o, rl', rc', hlen, hv, v0, v9, rfl, hR, s', ho⟩ | ⟨hlen, rfl, hR, ho⟩)
  · have hbad : bad = false := by
      cases bad with
      | false => rfl
      | true => have := h.nil rfl; subst this; simp at hlen; omega
    subst hbad
    have := f0 hby
    exact ⟨v, false, r.drop k, rfl, v0, by omega, ⟨⟨_, _, _, hR, s', fun _ => ⟨b, o, rfl⟩⟩, fun h => by cases h⟩, ho, .inl ⟨rfl, rfl, by rw [numB, if_neg hlen, hv]⟩⟩
  · exact ⟨0, true, [], rfl, by omega, ht0, ⟨⟨_, _, _, hR, by omega, fun h => by cases h⟩, fun _ => rfl⟩, ho, .inr ⟨rfl, .inr (by rw [numB, if_pos hlen])⟩⟩
theorem some_st (w V : World) (rb : Nat) (bad : Bool) (r : List Int) (M : Int) (h0 : 0 ≤ M) (h9 : M ≤ 65535) (h : St w V rb bad r) :
    Calls Try.prog 54 #[.pointer (some ⟨rb, 0, none⟩), .int .i64 M] V fun e V' => ∃ t ko kl kc bad' r', e = .returned (.slice ko kl kc) ∧ Tx V' ko kl kc t ∧ kl ≤ 65535 ∧ (∀ ad, ko = some ad → V.heap.size ≤ ad.block) ∧ St w V' rb bad' r' ∧ Off [rb] V V' ∧ ((bad = false ∧ bad' = false ∧ takeT M.toNat r = some (t, r')) ∨ (bad' = true ∧ (bad = true ∨ takeT M.toNat r = none))) := by
  obtain ⟨ro, rl, rc, h1, h2, h3⟩ := h.rf
  cases bad with
  | true =>
    refine (rsome_no w rb ro rl rc true r M M.toNat (by omega) V h1 (.inl rfl)).mono ?_
    rintro e V' ⟨rfl, hR, ho⟩
    exact ⟨[], none, 0, 0, true, [], rfl, Tx.nil _, by omega, fun _ h => (by cases h), ⟨⟨_, _, _, hR, by omega, fun h => by cases h⟩, fun _ => rfl⟩, ho, .inr ⟨rfl, .inl rfl⟩⟩
  | false =>
    obtain ⟨b, o, rfl⟩ := h3 rfl
    refine (rsome_any w rb b o rl rc r M h0 h9 V h1 h2).mono ?_
    rintro e V' (⟨x, r', ko, kl, kc, b', o', rl', rc', ht, hx, rfl, tk, fk, hR, s', ho⟩ | ⟨ht, rfl, hR, ho⟩)
    · exact ⟨x, ko, kl, kc, false, r', rfl, tk, by have := tk.len_eq; omega, fk, ⟨⟨_, _, _, hR, s', fun _ => ⟨b', o', rfl⟩⟩, fun h => by cases h⟩, ho, .inl ⟨rfl, rfl, ht⟩⟩
    · exact ⟨[], none, 0, 0, true, [], rfl, Tx.nil _, by omega, fun _ h => (by cases h), ⟨⟨_, _, _, hR, by omega, fun h => by cases h⟩, fun _ => rfl⟩, ho, .inr ⟨rfl, .inr ht⟩⟩

/-- What the document's All answers. -/
def RAll (w : World) (xs : List Int) (e : Ending) (w' : World) : Prop :=
  (∃ es bo lb cb, allB xs = some es ∧ e = .returned (.tuple #[.slice bo lb cb, .bool true]) ∧ Lx 3 RE w' bo lb cb es ∧ Below w.heap.size w w') ∨ (allB xs = none ∧ e = .returned (.tuple #[.slice none 0 0, .bool false]) ∧ Below w.heap.size w w')
theorem rall_no {w V : World} {xs : List Int} (hp : rallB xs = none) (hb : Below w.heap.size w V) : RAll w xs (.returned (.tuple #[.slice none 0 0, .bool false])) V := .inr ⟨by rw [← rallB_eq]; exact hp, rfl, hb⟩

/-- What holds at each round's head of the document's All. -/
structure RR (w V : World) (r0 : List Int) (bo : Option Addr) (m cb : Nat) (es : List Ent) : Prop where
  ls : Ls 25 3 (REx [w.heap.size]) V (w.heap.size + 1) (.slice bo m cb) es
  rd : ∃ r, St w V w.heap.size false r ∧ CameR r0 m es r

end Go.Proofs.Yteeemfohehpaeaa
