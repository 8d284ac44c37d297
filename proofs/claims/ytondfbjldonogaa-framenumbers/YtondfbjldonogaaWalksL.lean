/- The walks of frame's reader: number, text, entry. -/
import Derived.Test.YtondfbjldonogaaWalksH
namespace Go.Proofs.Ytondfbjldonogaa
open Go.RowKit

/-- The reader lies at block rb of w; what it has yet to read, xs, lies in W, which stands. -/
structure Rd (W w : World) (rb : Nat) (ro : Option Addr) (rl rc : Nat) (xs : List Int) : Prop where
  cell : w.cell? ⟨rb, 0, none⟩ = some (.slice ro rl rc)
  free : w.frozen? ⟨rb, 0, none⟩ = false
  tx : Tx W ro rl rc xs
  bel : Below W.heap.size W w
  out : W.heap.size ≤ rb

theorem Rd.lt {W w : World} {rb : Nat} {ro : Option Addr} {rl rc : Nat} {xs : List Int} (h : Rd W w rb ro rl rc xs) : rb < w.heap.size := World.block_lt_of_cell? _ _ h.cell
theorem Rd.later {W w w' : World} {rb : Nat} {ro : Option Addr} {rl rc : Nat} {xs : List Int} (h : Rd W w rb ro rl rc xs) (hb : Below w.heap.size w w') : Rd W w' rb ro rl rc xs :=
  ⟨cell_later hb h.cell, (hb.frozen (p := ⟨rb, 0, none⟩) h.lt).trans h.free, h.tx, h.bel.trans (hb.mono h.bel.size), h.out⟩
theorem Rd.off {S : List Nat} {W w w' : World} {rb : Nat} {ro : Option Addr} {rl rc : Nat} {xs : List Int} (h : Rd W w rb ro rl rc xs) (ho : Off S w w') (hn : rb ∉ S) (hs : ∀ k ∈ S, W.heap.size ≤ k) : Rd W w' rb ro rl rc xs :=
  ⟨ho.cell h.cell hn, by rw [World.frozen?_of_block (w := w) (ho.block rb h.lt hn)]; exact h.free, h.tx, h.bel.trans (ho.below hs h.bel.size), h.out⟩
theorem Rd.set {W w : World} {rb : Nat} {ro ro' : Option Addr} {rl rc rl' rc' : Nat} {xs xs' : List Int} (h : Rd W w rb ro rl rc xs) (t : Tx W ro' rl' rc' xs') : Rd W (w.setCell ⟨rb, 0, none⟩ (.slice ro' rl' rc')) rb ro' rl' rc' xs' :=
  ⟨World.cell?_setCell_same _ _ _ h.cell, by simpa using h.free, t, h.bel.setCell (p := ⟨rb, 0, none⟩) h.out _, h.out⟩

/-- The refusal that readers panic with. -/
def formE : List PanicEntry := [{ v := .iface 31 (.int .i64 12), recovered := false }]

theorem num_no (W : World) (rb : Nat) (ro : Option Addr) (rl rc : Nat) (xs : List Int) (K : Int) (k : Nat) (hK : K = (k : Int)) (hk : k ≤ 8) (lo hi : Int) (f : Int) (hf : ¬ rl < k → getN xs k = f) (f0 : 0 ≤ f) (f9 : f < 65536) (w : World) (h : Rd W w rb ro rl rc xs) (sr : rl ≤ 900000000) (hno : rl < k ∨ f < lo ∨ hi < f) :
    Calls Try.prog 41 #[.pointer (some ⟨rb, 0, none⟩), .int .i64 K, .int .i64 lo, .int .i64 hi] w fun e w' => e = .panicked formE ∧ w = w' := by
  have hc := h.cell
  have tw := h.tx.later h.bel
  subst hK
  by_cases hs : rl < k
  · have ge := get_no k k rfl hk ro rl rc xs w tw hs
    go_enter Try.func41, Try.ntmps41
    go_wp2_with (go_at_call 35; with_reducible refine ge.mono ?_; rintro e w1 ⟨rfl, rfl⟩)
    exact ⟨rfl, rfl, rfl⟩
  · have ge := get_yes k k rfl hk ro rl rc xs w tw hs (by omega)
    rw [hf hs] at ge
    by_cases hlo : f < lo
    · go_enter Try.func41, Try.ntmps41
      go_wp2_with (go_at_call 35; with_reducible refine ge.mono ?_; rintro e w1 ⟨rfl, rfl⟩)
      exact ⟨rfl, rfl, rfl⟩
    · have hhi : hi < f := by omega
      go_enter Try.func41, Try.ntmps41
      go_wp2_with (go_at_call 35; with_reducible refine ge.mono ?_; rintro e w1 ⟨rfl, rfl⟩)
      exact ⟨rfl, rfl, rfl⟩

theorem num_yes (W : World) (rb : Nat) (ro : Option Addr) (rl rc : Nat) (xs : List Int) (K : Int) (k : Nat) (hK : K = (k : Int)) (hk0 : 0 < k) (hk : k ≤ 8) (lo hi : Int) (f : Int) (hf : ¬ rl < k → getN xs k = f) (f0 : 0 ≤ f) (f9 : f < 65536) (w : World) (h : Rd W w rb ro rl rc xs) (sr : rl ≤ 900000000) (hs : ¬ rl < k) (hlo : ¬ f < lo) (hhi : ¬ hi < f) :
    Calls Try.prog 41 #[.pointer (some ⟨rb, 0, none⟩), .int .i64 K, .int .i64 lo, .int .i64 hi] w fun e w' => ∃ b o rl' rc', e = .returned (.int .i64 f) ∧ Rd W w' rb (some ⟨b, o, none⟩) rl' rc' (xs.drop k) ∧ Off [rb] w w' := by
  obtain ⟨b, off, rfl, _⟩ := h.tx.head (by omega)
  have hc := h.cell
  have hz := h.free
  have tw := h.tx.later h.bel
  have hle := h.tx.le
  have htop := h.tx.top
  have hxl := h.tx.len_eq
  unfold maxLen at htop
  have ge := get_yes K k hK hk _ rl rc xs w tw hs (by omega)
  rw [hf hs] at ge
  subst hK
  by_cases hcap : rc = k
  · have hst := h.set (ro' := some ⟨b, off, none⟩) (rl' := rl - k) (rc' := 0) (xs' := xs.drop k) (by
      have : xs.drop k = [] := List.drop_eq_nil_of_le (by omega)
      rw [this]; exact Tx.ended _ _ _ _ (by omega) (by omega))
    have hc1 : rc ≤ k := by omega
    have hc2 : k ≤ rc := by omega
    clear hcap
    go_enter Try.func41, Try.ntmps41
    go_wp2_with (go_at_call 35; with_reducible refine ge.mono ?_; rintro e w1 ⟨rfl, rfl⟩)
    go_ret
    exact ⟨b, off, _, _, rfl, hst, (Off.refl _ _).setCell (p := ⟨rb, 0, none⟩) (by simp) _⟩
  · have hst := h.set (h.tx.drop k (by omega))
    go_enter Try.func41, Try.ntmps41
    go_wp2_with (go_at_call 35; with_reducible refine ge.mono ?_; rintro e w1 ⟨rfl, rfl⟩)
    go_ret
    exact ⟨b, off + k, _, _, rfl, hst, (Off.refl _ _).setCell (p := ⟨rb, 0, none⟩) (by simp) _⟩

theorem text_no (W : World) (rb : Nat) (ro : Option Addr) (rl rc : Nat) (xs : List Int) (M : Int) (m : Nat) (hM : M = (m : Int)) (w : World) (h : Rd W w rb ro rl rc xs) (hno : rl < m) :
    Calls Try.prog 48 #[.pointer (some ⟨rb, 0, none⟩), .int .i64 M] w fun e w' => e = .panicked formE ∧ w = w' := by
  have hc := h.cell
  subst hM
  go_enter Try.func48, Try.ntmps48
  go_wp2
  exact ⟨rfl, rfl, rfl⟩

theorem text_yes (W : World) (rb : Nat) (b off : Nat) (rl rc : Nat) (xs : List Int) (M : Int) (m : Nat) (hM : M = (m : Int)) (w : World) (h : Rd W w rb (some ⟨b, off, none⟩) rl rc xs) (hyes : ¬ rl < m) (hm : m ≤ 100000) :
    Calls Try.prog 48 #[.pointer (some ⟨rb, 0, none⟩), .int .i64 M] w fun e w' => ∃ ko kc b' o' rl' rc', e = .returned (.slice ko m kc) ∧ Tx w' ko m kc (xs.take m) ∧ (∀ ad, ko = some ad → w.heap.size ≤ ad.block) ∧ Rd W w' rb (some ⟨b', o', none⟩) rl' rc' (xs.drop m) ∧ Off [rb] w w' := by
  have hc := h.cell
  have hz := h.free
  have tw := h.tx.later h.bel
  have hle := h.tx.le
  have htop := h.tx.top
  have hxl := h.tx.len_eq
  unfold maxLen at htop
  subst hM
  have hcl := bclone_any (some ⟨b, off, none⟩) m rc (xs.take m) w (tw.take m (by omega)) (by omega)
  by_cases hcap : rc = m
  · have hst := fun V (hV : Below w.heap.size w V) => (h.later hV).set (ro' := some ⟨b, off, none⟩) (rl' := rl - m) (rc' := 0) (xs' := xs.drop m) (by
      have : xs.drop m = [] := List.drop_eq_nil_of_le (by omega)
      rw [this]; exact Tx.ended _ _ _ _ (by omega) (by omega))
    have hc1 : rc ≤ m := by omega
    have hc2 : m ≤ rc := by omega
    clear hcap
    go_enter Try.func48, Try.ntmps48
    go_wp2_with (go_at_call 36; with_reducible refine hcl.mono ?_; rintro e V ⟨ko, kc, rfl, tk, fk, bV⟩; have h2 := h.later bV; have hc2 := h2.cell; have hz2 := h2.free)
    go_ret
    refine ⟨ko, kc, b, off, _, _, rfl, tx_beside tk (fun ad ha _ e => by have := fk ad ha; have := h.lt; omega) _, fk, hst V bV, (Off.of_below bV).setCell (p := ⟨rb, 0, none⟩) (by simp) _⟩
  · have hst := fun V (hV : Below w.heap.size w V) => (h.later hV).set (h.tx.drop m (by omega))
    go_enter Try.func48, Try.ntmps48
    go_wp2_with (go_at_call 36; with_reducible refine hcl.mono ?_; rintro e V ⟨ko, kc, rfl, tk, fk, bV⟩; have h2 := h.later bV; have hc2 := h2.cell; have hz2 := h2.free)
    go_ret
    refine ⟨ko, kc, b, off + m, _, _, rfl, tx_beside tk (fun ad ha _ e => by have := fk ad ha; have := h.lt; omega) _, fk, hst V bV, (Off.of_below bV).setCell (p := ⟨rb, 0, none⟩) (by simp) _⟩

theorem end_yes (W : World) (rb : Nat) (ro : Option Addr) (rl rc : Nat) (w : World) (h : Rd W w rb ro rl rc []) :
    Calls Try.prog 43 #[.pointer (some ⟨rb, 0, none⟩)] w fun e w' => e = .returned (.tuple #[]) ∧ w = w' := by
  have hc := h.cell
  have hl := h.tx.len_eq
  simp at hl
  subst hl
  go_enter Try.func43, Try.ntmps43
  go_wp2
  refine bodyPost_end (results_none rfl _ _ _) rfl ?_
  exact ⟨rfl, rfl⟩
theorem end_no (W : World) (rb : Nat) (ro : Option Addr) (rl rc : Nat) (xs : List Int) (hx : xs ≠ []) (w : World) (h : Rd W w rb ro rl rc xs) :
    Calls Try.prog 43 #[.pointer (some ⟨rb, 0, none⟩)] w fun e w' => e = .panicked formE ∧ w = w' := by
  have hc := h.cell
  have hl := h.tx.len_eq
  have h0 : 0 < rl := by
    rw [← hl]; exact List.length_pos_iff.2 hx
  go_enter Try.func43, Try.ntmps43
  go_wp2
  exact ⟨rfl, rfl, rfl⟩

end Go.Proofs.Ytondfbjldonogaa
