/- The walks of block's reader: number, text, parts. -/
import Derived.Test.YteeemfohehpaeaaPA
import Derived.Test.YteeemfohehpaeaaPD
namespace Go.Proofs.Yteeemfohehpaeaa
set_option maxRecDepth 100000
open Go.RowKit

theorem bnum_no (W : World) (rb : Nat) (ro : Option Addr) (rl rc : Nat) (xs : List Int) (K : Int) (k : Nat) (hK : K = (k : Int)) (hk : k ≤ 8) (w : World) (h : Rd W w rb ro rl rc xs) (hs : rl < k) :
    Calls Try.prog 75 #[.pointer (some ⟨rb, 0, none⟩), .int .i64 K] w fun e w' => e = .panicked formE ∧ w = w' := by
  have hc := h.cell
  have tw := h.tx.later h.bel
  subst hK
  have ge := get_no k k rfl hk ro rl rc xs w tw hs
  go_enter Try.func75, Try.ntmps75
  go_wp2_with (go_at_call 68; with_reducible refine ge.mono ?_; rintro e w1 ⟨rfl, rfl⟩)
  exact ⟨rfl, rfl, rfl⟩

theorem bnum_yes (W : World) (rb : Nat) (ro : Option Addr) (rl rc : Nat) (xs : List Int) (K : Int) (k : Nat) (hK : K = (k : Int)) (hk0 : 0 < k) (hk : k ≤ 8) (f : Int) (hf : ¬ rl < k → getN xs k = f) (f0 : 0 ≤ f) (f9 : f < 65536) (w : World) (h : Rd W w rb ro rl rc xs) (sr : rl ≤ 900000000) (hs : ¬ rl < k) :
    Calls Try.prog 75 #[.pointer (some ⟨rb, 0, none⟩), .int .i64 K] w fun e w' => ∃ b o rl' rc', e = .returned (.int .i64 f) ∧ Rd W w' rb (some ⟨b, o, none⟩) rl' rc' (xs.drop k) ∧ Off [rb] w w' := by
  obtain ⟨b, off, rfl, _⟩ := h.tx.head (by omega)
  have hc := h.cell
  have hz := h.free
  have tw := h.tx.later h.bel
  have hle := h.tx.le
  have htop := h.tx.top
  have hxl := h.tx.len_eq
  unfold maxLen at htop
  have ge := get_yes K k hK hk _ rl rc xs w tw hs (by omega)
  rw [hf hs] at ge
  subst hK
  by_cases hcap : rc = k
  · have hst := h.set (ro' := some ⟨b, off, none⟩) (rl' := rl - k) (rc' := 0) (xs' := xs.drop k) (by
      have : xs.drop k = [] := List.drop_eq_nil_of_le (by omega)
      rw [this]; exact Tx.ended _ _ _ _ (by omega) (by omega))
    have hc1 : rc ≤ k := by omega
    have hc2 : k ≤ rc := by omega
    clear hcap
    go_enter Try.func75, Try.ntmps75
    go_wp2_with (go_at_call 68; with_reducible refine ge.mono ?_; rintro e w1 ⟨rfl, rfl⟩)
    go_ret
    exact ⟨b, off, _, _, rfl, hst, (Off.refl _ _).setCell (p := ⟨rb, 0, none⟩) (by simp) _⟩
  · have hst := h.set (h.tx.drop k (by omega))
    go_enter Try.func75, Try.ntmps75
    go_wp2_with (go_at_call 68; with_reducible refine ge.mono ?_; rintro e w1 ⟨rfl, rfl⟩)
    go_ret
    exact ⟨b, off + k, _, _, rfl, hst, (Off.refl _ _).setCell (p := ⟨rb, 0, none⟩) (by simp) _⟩

theorem btext_no (W : World) (rb : Nat) (ro : Option Addr) (rl rc : Nat) (xs : List Int) (M : Int) (m : Nat) (hM : M = (m : Int)) (w : World) (h : Rd W w rb ro rl rc xs) (hno : rl < m) :
    Calls Try.prog 76 #[.pointer (some ⟨rb, 0, none⟩), .int .i64 M] w fun e w' => e = .panicked formE ∧ w = w' := by
  have hc := h.cell
  subst hM
  go_enter Try.func76, Try.ntmps76
  go_wp2
  exact ⟨rfl, rfl, rfl⟩

theorem btext_yes (W : World) (rb : Nat) (b off : Nat) (rl rc : Nat) (xs : List Int) (M : Int) (m : Nat) (hM : M = (m : Int)) (w : World) (h : Rd W w rb (some ⟨b, off, none⟩) rl rc xs) (hyes : ¬ rl < m) (hm : m ≤ 100000) :
    Calls Try.prog 76 #[.pointer (some ⟨rb, 0, none⟩), .int .i64 M] w fun e w' => ∃ b' o' rl' rc', e = .returned (.slice (some ⟨b, off, none⟩) m rc) ∧ Tx W (some ⟨b, off, none⟩) m rc (xs.take m) ∧ Rd W w' rb (some ⟨b', o', none⟩) rl' rc' (xs.drop m) ∧ Off [rb] w w' := by
  have hc := h.cell
  have hz := h.free
  have hle := h.tx.le
  have htop := h.tx.top
  have hxl := h.tx.len_eq
  unfold maxLen at htop
  subst hM
  have ht := h.tx.take m (by omega)
  by_cases hcap : rc = m
  · have hst := h.set (ro' := some ⟨b, off, none⟩) (rl' := rl - m) (rc' := 0) (xs' := xs.drop m) (by
      have : xs.drop m = [] := List.drop_eq_nil_of_le (by omega)
      rw [this]; exact Tx.ended _ _ _ _ (by omega) (by omega))
    have hc1 : rc ≤ m := by omega
    have hc2 : m ≤ rc := by omega
    clear hcap
    go_enter Try.func76, Try.ntmps76
    go_wp2
    go_ret
    exact ⟨b, off, _, _, rfl, ht, hst, (Off.refl _ _).setCell (p := ⟨rb, 0, none⟩) (by simp) _⟩
  · have hst := h.set (h.tx.drop m (by omega))
    go_enter Try.func76, Try.ntmps76
    go_wp2
    go_ret
    exact ⟨b, off + m, _, _, rfl, ht, hst, (Off.refl _ _).setCell (p := ⟨rb, 0, none⟩) (by simp) _⟩

/-- A reader in a box of its own. -/
theorem Rd.one (w : World) (ao : Option Addr) (la ca : Nat) (xs : List Int) (ha : Tx w ao la ca xs) : Rd w (w.alloc (.cells #[.slice ao la ca] 109)) w.heap.size ao la ca xs :=
  ⟨by simp [go_sem], by simp [go_sem], ha, (Below.refl _ _).alloc (Nat.le_refl _) _, Nat.le_refl _⟩

theorem getN_last (xs : List Int) (hb : Bytes xs) (h : 0 < xs.length) : getN (xs.drop (xs.length - 1)) 1 = (lastN xs : Int) := by
  have hl : ¬ (xs.drop (xs.length - 1)).length < 1 := by simp; omega
  rw [num1_get _ (hb.drop _) hl]
  have := getD_byte hb (xs.length - 1)
  unfold num1 lastN
  have e : (xs.drop (xs.length - 1)).getD 0 0 = xs.getD (xs.length - 1) 0 := by simp [List.getD]
  rw [e]; omega

set_option maxHeartbeats 1000000 in
theorem parts_any (ao : Option Addr) (la ca : Nat) (xs : List Int) (w : World) (ha : Tx w ao la ca xs) (sa : la ≤ 900000000) :
    Calls Try.prog 73 #[.slice ao la ca] w fun e w' =>
      (∃ a b bo l1 c1 co l2 c2, partsL xs = some (a, b) ∧ e = .returned (.tuple #[.slice bo l1 c1, .slice co l2 c2]) ∧ Tx w bo l1 c1 a ∧ Tx w co l2 c2 b ∧ Below w.heap.size w w') ∨ (partsL xs = none ∧ e = .panicked formE ∧ Below w.heap.size w w') := by
  have hl := ha.len_eq
  have hle := ha.le
  have htop := ha.top
  unfold maxLen at htop
  by_cases h0 : la < 1
  · have hp : Hid (partsL xs = none) := by show _ = _; rw [partsL, if_pos (.inl (by omega))]
    have hz : la = 0 := by omega
    subst hz
    go_enter Try.func73, Try.ntmps73
    go_wp2
    exact ⟨rfl, .inr ⟨hp.out, rfl, Below.refl _ _⟩⟩
  · obtain ⟨b, off, rfl, hc⟩ := ha.head (by omega)
    have hby : Bytes xs := ha.rng
    have hlast := getN_last xs hby (by omega)
    rw [hl] at hlast
    have hn9 : lastN xs ≤ 255 := by have := getD_byte hby (xs.length - 1); unfold lastN; omega
    have td := ha.drop (la - 1) (by omega)
    have hpart : partsL xs = if la < 1 ∨ la - 1 < 2 * lastN xs then none else some (xs.take (la - 1 - 2 * lastN xs), (xs.drop (la - 1 - 2 * lastN xs)).take (2 * lastN xs)) := by rw [partsL, hl]
    generalize lastN xs = n at hlast hn9 hpart
    obtain ⟨q, hq⟩ : ∃ q, la = q + 1 := ⟨la - 1, by omega⟩
    subst hq
    rw [Nat.add_sub_cancel] at td hlast hpart
    rw [show q + 1 - q = 1 by omega] at td
    have hsub : ((q + 1 : Nat) : Int) - 1 = (q : Int) := by omega
    have hcq : ¬ ca = q := by omega
    have R0 := Rd.one w _ _ _ _ td
    have b0 : Below w.heap.size w (w.alloc (.cells #[.slice (some ⟨b, off + q, none⟩) 1 (ca - q)] 109)) := (Below.refl _ _).alloc (Nat.le_refl _) _
    have hnum := bnum_yes w w.heap.size _ 1 (ca - q) _ 1 1 rfl (by omega) (by omega) (n : Int) (fun _ => hlast) (by omega) (by omega) _ R0 (by omega) (by omega)
    by_cases h2 : q < 2 * n
    · have hp : Hid (partsL xs = none) := by show _ = _; rw [hpart, if_pos (.inr h2)]
      have hneg : (q : Int) - (n : Int) * 2 < 0 := by omega
      clear hpart
      go_enter Try.func73, Try.ntmps73
      go_wp2_with (go_at_call 75; with_reducible refine hnum.mono ?_; rintro e w1 ⟨b1, o1, rl1, rc1, rfl, R1, O1⟩)
      exact ⟨rfl, .inr ⟨hp.out, rfl, R1.bel⟩⟩
    · have hp : Hid (partsL xs = some (xs.take (q - 2 * n), (xs.drop (q - 2 * n)).take (2 * n))) := by show _ = _; rw [hpart, if_neg (by omega)]
      obtain ⟨r, hr⟩ : ∃ r : Nat, q = r + 2 * n := ⟨q - 2 * n, by omega⟩
      subst hr
      rw [Nat.add_sub_cancel] at hp
      have hneg : (((r + 2 * n : Nat) : Int)) - (n : Int) * 2 = (r : Int) := by omega
      have t1 := ha.take r (by omega)
      have t2 := (ha.drop r (by omega)).take (2 * n) (by omega)
      have hcr : ¬ ca = r := by omega
      have e2 : r + 2 * n - r = 2 * n := by omega
      clear hpart
      go_enter Try.func73, Try.ntmps73
      go_wp2_with (go_at_call 75; with_reducible refine hnum.mono ?_; rintro e w1 ⟨b1, o1, rl1, rc1, rfl, R1, O1⟩)
      go_quiet (fail)
      go_wp2
      go_ret2
      have e3 : r + 2 * n - n * 2 = r := by omega
      refine .inl ⟨_, _, _, _, _, _, _, _, hp.out, rfl, by rw [e3]; exact t1, ?_, below_drewN R1.bel _⟩
      rw [e3, e2]; exact t2

end Go.Proofs.Yteeemfohehpaeaa
