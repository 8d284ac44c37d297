/- The walks of the document's reader's Some; both, whatever is left. -/
import Derived.Test.YtondfbjldonogaaWalksQ
import Derived.Test.YtondfbjldonogaaWalksN
namespace Go.Proofs.Ytondfbjldonogaa
open Go.RowKit

theorem rsome_yes (W : World) (rb : Nat) (b off : Nat) (rl rc : Nat) (xs : List Int) (M : Int) (m : Nat) (hM : M = (m : Int)) (w : World) (h : Rf W w rb (some ⟨b, off, none⟩) rl rc false xs) (hyes : ¬ rl < m) (hm : m ≤ 100000) :
    Calls Try.prog 46 #[.pointer (some ⟨rb, 0, none⟩), .int .i64 M] w fun e w' => ∃ ko kl kc b' o' rl' rc', e = .returned (.slice ko kl kc) ∧ Tx w' ko kl kc (xs.take m) ∧ (∀ ad, ko = some ad → w.heap.size ≤ ad.block) ∧ Rf W w' rb (some ⟨b', o', none⟩) rl' rc' false (xs.drop m) ∧ Off [rb] w w' := by
  have hc := h.c0
  have hc1 := h.c1
  have hz := h.free 0
  have hle := h.tx.le
  have htop := h.tx.top
  have hxl := h.tx.len_eq
  unfold maxLen at htop
  subst hM
  have g0 := own_empty2 w
  have bz : Below w.heap.size w (w.alloc (.cells #[] 5)) := (Below.refl _ _).alloc (Nat.le_refl _) _
  have hZ := h.later bz
  have hZc := hZ.c0
  have ts : Tx (w.alloc (.cells #[] 5)) (some ⟨b, off, none⟩) m rc (xs.take m) := ((h.tx.later h.bel).take m (by omega)).later bz
  by_cases hcap : rc = m
  · have hst := fun V (hV : Below w.heap.size w V) => (h.later hV).set (ro' := some ⟨b, off, none⟩) (rl' := rl - m) (rc' := 0) (xs' := xs.drop m) (by
      have : xs.drop m = [] := List.drop_eq_nil_of_le (by omega)
      rw [this]; exact Tx.ended _ _ _ _ (by omega) (by omega))
    have hc1' : rc ≤ m := by omega
    have hc2' : m ≤ rc := by omega
    clear hcap
    go_enter Try.func46, Try.ntmps46
    go_wp2_with (with_reducible show wpList _ _ _ (⟨some 32, _, _, _, _, _⟩ :: _) _ _; refine wpList_gr rfl _ _ rfl w.heap.size (some ⟨w.heap.size, 0, none⟩) 0 0 [] rfl g0 (some ⟨b, off, none⟩) m rc (xs.take m) rfl ts (by omega) ?_; intro ko kl kc V hn5 g5 m5; rw [List.nil_append] at g5; have bV := bz.trans (m5.below g0); have h2 := h.later bV; have hc2 := h2.c0; have hz2 := h2.free 0; clear hn5)
    go_ret
    have fk : ∀ ad, ko = some ad → w.heap.size ≤ ad.block := fun ad ha => (g5.lt ad.block (by subst ha; simp [own, Value.ownBlock])).2
    exact ⟨ko, kl, kc, b, off, _, _, rfl, tx_beside g5.tx (fun ad ha _ e => by have := fk ad ha; have := h.lt; omega) _, fk, hst V bV, (Off.of_below bV).setCell (p := ⟨rb, 0, none⟩) (by simp) _⟩
  · have hst := fun V (hV : Below w.heap.size w V) => (h.later hV).set (h.tx.drop m (by omega))
    go_enter Try.func46, Try.ntmps46
    go_wp2_with (with_reducible show wpList _ _ _ (⟨some 32, _, _, _, _, _⟩ :: _) _ _; refine wpList_gr rfl _ _ rfl w.heap.size (some ⟨w.heap.size, 0, none⟩) 0 0 [] rfl g0 (some ⟨b, off, none⟩) m rc (xs.take m) rfl ts (by omega) ?_; intro ko kl kc V hn5 g5 m5; rw [List.nil_append] at g5; have bV := bz.trans (m5.below g0); have h2 := h.later bV; have hc2 := h2.c0; have hz2 := h2.free 0; clear hn5)
    go_ret
    have fk : ∀ ad, ko = some ad → w.heap.size ≤ ad.block := fun ad ha => (g5.lt ad.block (by subst ha; simp [own, Value.ownBlock])).2
    exact ⟨ko, kl, kc, b, off + m, _, _, rfl, tx_beside g5.tx (fun ad ha _ e => by have := fk ad ha; have := h.lt; omega) _, fk, hst V bV, (Off.of_below bV).setCell (p := ⟨rb, 0, none⟩) (by simp) _⟩

/-- The document's numbers and texts, whatever is left. -/
theorem rnum_any (W : World) (rb : Nat) (ro : Option Addr) (rl rc : Nat) (bad : Bool) (xs : List Int) (K : Int) (k : Nat) (hK : K = (k : Int)) (hk0 : 0 < k) (hk : k ≤ 8) (f : List Int → Int) (hf : Bytes xs → ¬ xs.length < k → getN xs k = f xs) (f0 : Bytes xs → 0 ≤ f xs ∧ f xs ≤ 65535) (w : World) (h : Rf W w rb ro rl rc bad xs) (sr : rl ≤ 900000000) :
    Calls Try.prog 45 #[.pointer (some ⟨rb, 0, none⟩), .int .i64 K] w fun e w' =>
      (∃ v b o rl' rc', ¬ xs.length < k ∧ f xs = v ∧ 0 ≤ v ∧ v ≤ 65535 ∧ e = .returned (.int .i64 v) ∧ Rf W w' rb (some ⟨b, o, none⟩) rl' rc' bad (xs.drop k) ∧ rl' ≤ 900000000 ∧ Off [rb] w w') ∨ (xs.length < k ∧ e = .returned (.int .i64 0) ∧ Rf W w' rb none 0 0 true [] ∧ Off [rb] w w') := by
  have hl := h.tx.len_eq
  have hb : Bytes xs := h.tx.rng
  obtain ⟨g1, g2⟩ := f0 hb
  by_cases hno : rl < k
  · refine (rnum_no W rb ro rl rc bad xs K k hK hk w h hno).mono ?_
    rintro e w' ⟨rfl, hR, ho⟩
    exact .inr ⟨by omega, rfl, hR, ho⟩
  · refine (rnum_yes W rb ro rl rc bad xs K k hK hk0 hk (f xs) (fun h => hf hb (by omega)) g1 (by omega) w h sr hno).mono ?_
    rintro e w' ⟨b, o, rl', rc', rfl, hR, ho⟩
    exact .inl ⟨f xs, b, o, rl', rc', by omega, rfl, g1, g2, rfl, hR, by have := hR.tx.len_eq; simp at this; omega, ho⟩
theorem rsome_any (W : World) (rb : Nat) (b off : Nat) (rl rc : Nat) (xs : List Int) (M : Int) (h0 : 0 ≤ M) (h9 : M ≤ 65535) (w : World) (h : Rf W w rb (some ⟨b, off, none⟩) rl rc false xs) (sr : rl ≤ 900000000) :
    Calls Try.prog 46 #[.pointer (some ⟨rb, 0, none⟩), .int .i64 M] w fun e w' =>
      (∃ x r ko kl kc b' o' rl' rc', takeT M.toNat xs = some (x, r) ∧ x.length = M.toNat ∧ e = .returned (.slice ko kl kc) ∧ Tx w' ko kl kc x ∧ (∀ ad, ko = some ad → w.heap.size ≤ ad.block) ∧ Rf W w' rb (some ⟨b', o', none⟩) rl' rc' false r ∧ rl' ≤ 900000000 ∧ Off [rb] w w') ∨ (takeT M.toNat xs = none ∧ e = .returned (.slice none 0 0) ∧ Rf W w' rb none 0 0 true [] ∧ Off [rb] w w') := by
  have hl := h.tx.len_eq
  by_cases hno : rl < M.toNat
  · refine (rsome_no W rb _ rl rc false xs M M.toNat (by omega) w h (.inr hno)).mono ?_
    rintro e w' ⟨rfl, hR, ho⟩
    exact .inr ⟨by rw [takeT, if_pos (by omega)], rfl, hR, ho⟩
  · refine (rsome_yes W rb b off rl rc xs M M.toNat (by omega) w h hno (by omega)).mono ?_
    rintro e w' ⟨ko, kl, kc, b', o', rl', rc', rfl, tk, fk, hR, ho⟩
    exact .inl ⟨_, _, ko, kl, kc, b', o', rl', rc', by rw [takeT, if_neg (by omega)], by simp; omega, rfl, tk, fk, hR, by have := hR.tx.len_eq; simp at this; omega, ho⟩

end Go.Proofs.Ytondfbjldonogaa
