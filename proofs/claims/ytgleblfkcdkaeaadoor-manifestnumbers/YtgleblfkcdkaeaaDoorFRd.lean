/- The document's own reader of bytes: its numbers. -/
import Derived.Test.YtgleblfkcdkaeaaDoorFWalksK
namespace Go.Proofs.YtgleblfkcdkaeaaDoor
set_option maxRecDepth 100000
open Go.RowKit Go.Sort

/-- The document's reader at block rb: what is left, and whether bytes lacked. -/
structure Rf (W w : World) (rb : Nat) (ro : Option Addr) (rl rc : Nat) (bad : Bool) (xs : List Int) : Prop where
  c0 : w.cell? ⟨rb, 0, none⟩ = some (.slice ro rl rc)
  c1 : w.cell? ⟨rb, 1, none⟩ = some (.bool bad)
  free : ∀ j, w.frozen? ⟨rb, j, none⟩ = false
  tx : Tx W ro rl rc xs
  bel : Below W.heap.size W w
  out : W.heap.size ≤ rb
theorem Rf.lt {W w : World} {rb : Nat} {ro : Option Addr} {rl rc : Nat} {bad : Bool} {xs : List Int} (h : Rf W w rb ro rl rc bad xs) : rb < w.heap.size := World.block_lt_of_cell? _ _ h.c0
theorem Rf.off {S : List Nat} {W w w' : World} {rb : Nat} {ro : Option Addr} {rl rc : Nat} {bad : Bool} {xs : List Int} (h : Rf W w rb ro rl rc bad xs) (ho : Off S w w') (hn : rb ∉ S) (hs : ∀ k ∈ S, W.heap.size ≤ k) : Rf W w' rb ro rl rc bad xs :=
  ⟨ho.cell h.c0 hn, ho.cell h.c1 hn, fun j => by rw [World.frozen?_of_block (w := w) (ho.block rb h.lt hn)]; exact h.free j, h.tx, h.bel.trans (ho.below hs h.bel.size), h.out⟩
theorem Rf.later {W w w' : World} {rb : Nat} {ro : Option Addr} {rl rc : Nat} {bad : Bool} {xs : List Int} (h : Rf W w rb ro rl rc bad xs) (hb : Below w.heap.size w w') : Rf W w' rb ro rl rc bad xs := h.off (S := []) (.of_below hb) (by simp) (by simp)
theorem Rf.set {W w : World} {rb : Nat} {ro ro' : Option Addr} {rl rc rl' rc' : Nat} {bad : Bool} {xs xs' : List Int} (h : Rf W w rb ro rl rc bad xs) (t : Tx W ro' rl' rc' xs') : Rf W (w.setCell ⟨rb, 0, none⟩ (.slice ro' rl' rc')) rb ro' rl' rc' bad xs' :=
  ⟨World.cell?_setCell_same _ _ _ h.c0, by rw [World.cell?_setCell_other _ _ _ _ (by simp)]; exact h.c1, fun j => by simpa using h.free j, t, h.bel.setCell (p := ⟨rb, 0, none⟩) h.out _, h.out⟩
theorem Rf.spoil {W w : World} {rb : Nat} {ro : Option Addr} {rl rc : Nat} {bad : Bool} {xs : List Int} (h : Rf W w rb ro rl rc bad xs) : Rf W ((w.setCell ⟨rb, 1, none⟩ (.bool true)).setCell ⟨rb, 0, none⟩ (.slice none 0 0)) rb none 0 0 true [] := by
  have e0 : (w.setCell ⟨rb, 1, none⟩ (.bool true)).cell? ⟨rb, 0, none⟩ = some (.slice ro rl rc) := by rw [World.cell?_setCell_other _ _ _ _ (by simp)]; exact h.c0
  have e1 : (w.setCell ⟨rb, 1, none⟩ (.bool true)).cell? ⟨rb, 1, none⟩ = some (.bool true) := World.cell?_setCell_same _ _ _ h.c1
  exact ⟨World.cell?_setCell_same _ _ _ e0, by rw [World.cell?_setCell_other _ _ _ _ (by simp)]; exact e1, fun j => by simpa using h.free j, Tx.nil W, (h.bel.setCell (p := ⟨rb, 1, none⟩) h.out _).setCell (p := ⟨rb, 0, none⟩) h.out _, h.out⟩
theorem rnum_no (W : World) (rb : Nat) (ro : Option Addr) (rl rc : Nat) (bad : Bool) (xs : List Int) (K : Int) (k : Nat) (hK : K = (k : Int)) (hk : k ≤ 8) (w : World) (h : Rf W w rb ro rl rc bad xs) (hs : rl < k) :
    Calls Tryd.prog 46 #[.pointer (some ⟨rb, 0, none⟩), .int .i64 K] w fun e w' => e = .returned (.int .i64 0) ∧ Rf W w' rb none 0 0 true [] ∧ Off [rb] w w' := by
  have hc := h.c0
  have hc1 := h.c1
  have hz0 := h.free 0
  have hz1 := h.free 1
  have hsp := h.spoil
  subst hK
  have ge := rget_no k k rfl hk ro rl rc xs w (h.tx.later h.bel) hs
  go_enter Tryd.func46, Tryd.ntmps46
  go_wp2_with (go_at_call 45; with_reducible refine ge.mono ?_; rintro e w1 ⟨rfl, rfl⟩)
  go_ret
  exact ⟨rfl, hsp, ((Off.refl _ _).setCell (p := ⟨rb, 1, none⟩) (by simp) _).setCell (p := ⟨rb, 0, none⟩) (by simp) _⟩
theorem rnum_yes (W : World) (rb : Nat) (ro : Option Addr) (rl rc : Nat) (bad : Bool) (xs : List Int) (K : Int) (k : Nat) (hK : K = (k : Int)) (hk0 : 0 < k) (hk : k ≤ 8) (f : Int) (hf : ¬ rl < k → getN xs k = f) (f0 : 0 ≤ f) (f9 : f < 4294967296) (w : World) (h : Rf W w rb ro rl rc bad xs) (sr : rl ≤ 900000000) (hs : ¬ rl < k) :
    Calls Tryd.prog 46 #[.pointer (some ⟨rb, 0, none⟩), .int .i64 K] w fun e w' => ∃ b o rl' rc', e = .returned (.int .i64 f) ∧ Rf W w' rb (some ⟨b, o, none⟩) rl' rc' bad (xs.drop k) ∧ Off [rb] w w' := by
  obtain ⟨b, off, rfl, _⟩ := h.tx.head (by omega)
  have hc := h.c0
  have hz := h.free 0
  have tw := h.tx.later h.bel
  have hle := h.tx.le
  have htop := h.tx.top
  have hxl := h.tx.len_eq
  unfold maxLen at htop
  have ge := rget_yes K k hK hk _ rl rc xs w tw hs (by omega)
  rw [hf hs] at ge
  subst hK
  by_cases hcap : rc = k
  · have hst := h.set (ro' := some ⟨b, off, none⟩) (rl' := rl - k) (rc' := 0) (xs' := xs.drop k) (by
      have : xs.drop k = [] := List.drop_eq_nil_of_le (by omega)
      rw [this]; exact Tx.ended _ _ _ _ (by omega) (by omega))
    have hc1 : rc ≤ k := by omega
    have hc2 : k ≤ rc := by omega
    clear hcap
    go_enter Tryd.func46, Tryd.ntmps46
    go_wp2_with (go_at_call 45; with_reducible refine ge.mono ?_; rintro e w1 ⟨rfl, rfl⟩)
    go_ret
    exact ⟨b, off, _, _, rfl, hst, (Off.refl _ _).setCell (p := ⟨rb, 0, none⟩) (by simp) _⟩
  · have hst := h.set (h.tx.drop k (by omega))
    go_enter Tryd.func46, Tryd.ntmps46
    go_wp2_with (go_at_call 45; with_reducible refine ge.mono ?_; rintro e w1 ⟨rfl, rfl⟩)
    go_ret
    exact ⟨b, off + k, _, _, rfl, hst, (Off.refl _ _).setCell (p := ⟨rb, 0, none⟩) (by simp) _⟩
/-- The document's numbers and texts, whatever is left. -/
theorem rnum_any (W : World) (rb : Nat) (ro : Option Addr) (rl rc : Nat) (bad : Bool) (xs : List Int) (K : Int) (k : Nat) (hK : K = (k : Int)) (hk0 : 0 < k) (hk : k ≤ 8) (f : List Int → Int) (hf : Bytes xs → ¬ xs.length < k → getN xs k = f xs) (f0 : Bytes xs → 0 ≤ f xs ∧ f xs ≤ 4294967295) (w : World) (h : Rf W w rb ro rl rc bad xs) (sr : rl ≤ 900000000) :
    Calls Tryd.prog 46 #[.pointer (some ⟨rb, 0, none⟩), .int .i64 K] w fun e w' =>
      (∃ v b o rl' rc', ¬ xs.length < k ∧ f xs = v ∧ 0 ≤ v ∧ v ≤ 4294967295 ∧ e = .returned (.int .i64 v) ∧ Rf W w' rb (some ⟨b, o, none⟩) rl' rc' bad (xs.drop k) ∧ rl' ≤ 900000000 ∧ Off [rb] w w') ∨ (xs.length < k ∧ e = .returned (.int .i64 0) ∧ Rf W w' rb none 0 0 true [] ∧ Off [rb] w w') := by
  have hl := h.tx.len_eq
  have hb : Bytes xs := h.tx.rng
  obtain ⟨g1, g2⟩ := f0 hb
  by_cases hno : rl < k
  · refine (rnum_no W rb ro rl rc bad xs K k hK hk w h hno).mono ?_
    rintro e w' ⟨rfl, hR, ho⟩
    exact .inr ⟨by omega, rfl, hR, ho⟩
  · refine (rnum_yes W rb ro rl rc bad xs K k hK hk0 hk (f xs) (fun h => hf hb (by omega)) g1 (by omega) w h sr hno).mono ?_
    rintro e w' ⟨b, o, rl', rc', rfl, hR, ho⟩
    exact .inl ⟨f xs, b, o, rl', rc', by omega, rfl, g1, g2, rfl, hR, by have := hR.tx.len_eq; simp at this; omega, ho⟩
theorem Rf.new (w : World) (ao : Option Addr) (la ca : Nat) (xs : List Int) (ha : Tx w ao la ca xs) : Rf w (w.alloc (.cells #[.slice ao la ca, .bool false] 88)) w.heap.size ao la ca false xs := by
  have h : ∀ j u, [.slice ao la ca, .bool false][j]? = some u → (w.alloc (.cells #[.slice ao la ca, .bool false] 88)).cell? ⟨w.heap.size, j, none⟩ = some u := fun j u hu => by
    rw [cell_of_row _ w.heap.size j _ 88 (0, 0) (heap_alloc_new w _)]
    simpa using hu
  exact ⟨h 0 _ rfl, h 1 _ rfl, fun j => frozen_of_row _ w.heap.size j _ 88 (heap_alloc_new w _), ha, (Below.refl _ _).alloc (Nat.le_refl _) _, Nat.le_refl _⟩

end Go.Proofs.YtgleblfkcdkaeaaDoor
