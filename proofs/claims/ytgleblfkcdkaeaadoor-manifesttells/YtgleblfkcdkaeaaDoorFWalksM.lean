/- The walk of frame's reader's entry. -/
import Derived.Test.YtgleblfkcdkaeaaDoorFWalksL
namespace Go.Proofs.YtgleblfkcdkaeaaDoor
open Go.RowKit

theorem Boxf.new' (w : World) (k v : Value) (g : Bool) : Boxf (w.alloc (.cells #[k, v, .bool g] 24)) w.heap.size k v g :=
  ⟨(Box.new w k v g).c0, (Box.new w k v g).c1, (Box.new w k v g).c2, fun j => frozen_of_row (w.alloc (.cells #[k, v, .bool g] 24)) w.heap.size j _ 24 (heap_alloc_new w _)⟩

theorem num1_get (xs : List Int) (hb : Bytes xs) (h : ¬ xs.length < 1) : getN xs 1 = num1 xs := by
  match xs, h, hb with
  | [], h, _ => exact absurd (by simp) h
  | a :: r, _, hb =>
    have ha := hb.head
    have hok : okG (a :: r) 1 = true := by simp [okG]; omega
    rw [getN, if_pos hok]
    show joinB 0 a = _
    rw [joinB_eq 0 a (by omega) (by omega) (by omega) (by omega)]
    simp [num1]
theorem num2_get (xs : List Int) (hb : Bytes xs) (h : ¬ xs.length < 2) : getN xs 2 = num2 xs := by
  match xs, h, hb with
  | [], h, _ => exact absurd (by simp) h
  | [_], h, _ => exact absurd (by simp) h
  | a :: b :: r, _, hb =>
    have ha := hb.head
    have hb1 := hb.tail.head
    have hok : okG (a :: b :: r) 2 = true := by simp [okG]; omega
    rw [getN, if_pos hok]
    show joinB (joinB 0 a) b = _
    rw [joinB_eq 0 a (by omega) (by omega) (by omega) (by omega), joinB_eq _ b (by omega) (by omega) (by omega) (by omega)]
    simp [num2]
theorem getD_byte {xs : List Int} (h : Bytes xs) (j : Nat) : 0 ≤ xs.getD j 0 ∧ xs.getD j 0 ≤ 255 := by
  by_cases hj : j < xs.length
  · have e : xs.getD j 0 = xs[j] := by simp [List.getD, hj]
    rw [e]; exact h _ (List.getElem_mem hj)
  · simp [List.getD, hj]
theorem num1_rng {xs : List Int} (h : Bytes xs) : 0 ≤ num1 xs ∧ num1 xs ≤ 255 := getD_byte h 0
theorem num2_rng {xs : List Int} (h : Bytes xs) : 0 ≤ num2 xs ∧ num2 xs ≤ 65535 := by
  have := getD_byte h 0; have := getD_byte h 1
  unfold num2; omega

/-- What one entry's reading leaves. -/
def EntPost (W w : World) (rb : Nat) (xs : List Int) (e : Ending) (w' : World) : Prop :=
  (∃ en r ko kl kc vo vl vc b o rl rc, parseE xs = some (en, r) ∧ e = .returned (.agg #[.slice ko kl kc, .slice vo vl vc, .bool en.g]) ∧ Tx w' ko kl kc en.k ∧ Tx w' vo vl vc en.v ∧ (∀ ad, ko = some ad → w.heap.size ≤ ad.block) ∧ (∀ ad, vo = some ad → w.heap.size ≤ ad.block) ∧ Rd W w' rb (some ⟨b, o, none⟩) rl rc r ∧ rl ≤ 900000000 ∧ Off [rb] w w') ∨ (parseE xs = none ∧ e = .panicked formE ∧ Off [rb] w w')

theorem Off.setNew {S : List Nat} {a w : World} (h : Off S a w) {p : Addr} (hp : a.heap.size ≤ p.block) (u : Value) : Off S a (w.setCell p u) :=
  ⟨h.os, h.tape, h.output, Nat.le_trans h.size (by simp [World.setCell]), fun k hk hn => (Below.heap_setCell _ _ _ _ (fun e => by omega)).trans (h.block k hk hn)⟩
theorem Boxf.off {S : List Nat} {w w' : World} {bx : Nat} {k v : Value} {g : Bool} (h : Boxf w bx k v g) (ho : Off S w w') (hn : bx ∉ S) : Boxf w' bx k v g :=
  ⟨ho.cell h.c0 hn, ho.cell h.c1 hn, ho.cell h.c2 hn, fun j => by rw [World.frozen?_of_block (w := w) (ho.block bx (World.block_lt_of_cell? _ _ h.c0) hn)]; exact h.z j⟩
/-- The box is written whole. -/
theorem box_set (w : World) (bx : Nat) (k v a b : Value) (h : Boxf w bx a b false) (c : Value) :
    (((w.setCell ⟨bx, 0, none⟩ k).setCell ⟨bx, 1, none⟩ v).setCell ⟨bx, 2, none⟩ c).cell? ⟨bx, 0, none⟩ = some k ∧ (((w.setCell ⟨bx, 0, none⟩ k).setCell ⟨bx, 1, none⟩ v).setCell ⟨bx, 2, none⟩ c).cell? ⟨bx, 1, none⟩ = some v ∧ (((w.setCell ⟨bx, 0, none⟩ k).setCell ⟨bx, 1, none⟩ v).setCell ⟨bx, 2, none⟩ c).cell? ⟨bx, 2, none⟩ = some c := by
  have e0 : (w.setCell ⟨bx, 0, none⟩ k).cell? ⟨bx, 0, none⟩ = some k := World.cell?_setCell_same _ _ _ h.c0
  have e1 : (w.setCell ⟨bx, 0, none⟩ k).cell? ⟨bx, 1, none⟩ = some b := by rw [World.cell?_setCell_other _ _ _ _ (by simp)]; exact h.c1
  have e2 : (w.setCell ⟨bx, 0, none⟩ k).cell? ⟨bx, 2, none⟩ = some (.bool false) := by rw [World.cell?_setCell_other _ _ _ _ (by simp)]; exact h.c2
  have f0 : ((w.setCell ⟨bx, 0, none⟩ k).setCell ⟨bx, 1, none⟩ v).cell? ⟨bx, 0, none⟩ = some k := by rw [World.cell?_setCell_other _ _ _ _ (by simp)]; exact e0
  have f1 : ((w.setCell ⟨bx, 0, none⟩ k).setCell ⟨bx, 1, none⟩ v).cell? ⟨bx, 1, none⟩ = some v := World.cell?_setCell_same _ _ _ e1
  have f2 : ((w.setCell ⟨bx, 0, none⟩ k).setCell ⟨bx, 1, none⟩ v).cell? ⟨bx, 2, none⟩ = some (.bool false) := by rw [World.cell?_setCell_other _ _ _ _ (by simp)]; exact e2
  exact ⟨by rw [World.cell?_setCell_other _ _ _ _ (by simp)]; exact f0, by rw [World.cell?_setCell_other _ _ _ _ (by simp)]; exact f1, World.cell?_setCell_same _ _ _ f2⟩

/-- The end of an entry's reading: the box is written and handed back. -/
theorem ent_end {W w V : World} {rb : Nat} {xs r : List Int} {en : Ent} {ko vo : Option Addr} {kl kc vl vc b o rl rc : Nat} (hp : parseE xs = some (en, r)) (tk : Tx V ko kl kc en.k) (tv : Tx V vo vl vc en.v) (fk : ∀ ad, ko = some ad → w.heap.size < ad.block) (fv : ∀ ad, vo = some ad → w.heap.size < ad.block) (hR : Rd W V rb (some ⟨b, o, none⟩) rl rc r) (hrb : rb < w.heap.size) (hW : W.heap.size ≤ w.heap.size) (hl : rl ≤ 900000000) (ho : Off [rb] w V) (c : Value) (hc : c = .bool en.g) :
    EntPost W w rb xs (.returned (.agg #[.slice ko kl kc, .slice vo vl vc, c])) (((V.setCell ⟨w.heap.size, 0, none⟩ (.slice ko kl kc)).setCell ⟨w.heap.size, 1, none⟩ (.slice vo vl vc)).setCell ⟨w.heap.size, 2, none⟩ c) := by
  subst hc
  have hne : ∀ (o1 : Option Addr) (l : Nat), (∀ ad, o1 = some ad → w.heap.size < ad.block) → ∀ ad, o1 = some ad → 0 < l → ad.block ≠ w.heap.size := fun o1 l f ad ha _ => by have := f ad ha; omega
  have O3 : Off [w.heap.size] V (((V.setCell ⟨w.heap.size, 0, none⟩ (.slice ko kl kc)).setCell ⟨w.heap.size, 1, none⟩ (.slice vo vl vc)).setCell ⟨w.heap.size, 2, none⟩ (.bool en.g)) :=
    (((Off.refl [w.heap.size] V).setCell (p := ⟨w.heap.size, 0, none⟩) (by simp) _).setCell (p := ⟨w.heap.size, 1, none⟩) (by simp) _).setCell (p := ⟨w.heap.size, 2, none⟩) (by simp) _
  refine .inl ⟨en, r, ko, kl, kc, vo, vl, vc, b, o, rl, rc, hp, rfl, ?_, ?_, fun ad ha => Nat.le_of_lt (fk ad ha), fun ad ha => Nat.le_of_lt (fv ad ha), ?_, hl, ?_⟩
  · exact tk.off O3 (fun ad ha h0 hk => by simp at hk; exact hne ko kl fk ad ha h0 hk)
  · exact tv.off O3 (fun ad ha h0 hk => by simp at hk; exact hne vo vl fv ad ha h0 hk)
  · exact hR.off O3 (by simp; omega) (by simpa using hW)
  · exact ((ho.setNew (p := ⟨w.heap.size, 0, none⟩) (Nat.le_refl _) _).setNew (p := ⟨w.heap.size, 1, none⟩) (Nat.le_refl _) _).setNew (p := ⟨w.heap.size, 2, none⟩) (Nat.le_refl _) _

end Go.Proofs.YtgleblfkcdkaeaaDoor
