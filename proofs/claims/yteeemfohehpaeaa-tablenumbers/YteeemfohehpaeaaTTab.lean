/- Tables in memory: a row of blocks, each with its last Key, behind a pointer; the walks of what reads them. -/
import Derived.Test.YteeemfohehpaeaaTOpenM
import Derived.Test.YteeemfohehpaeaaPE
namespace Go.Proofs.Yteeemfohehpaeaa
set_option maxRecDepth 100000
open Go.RowKit Go.Sort

/-- A block as it is kept: its text, its last Key. -/
abbrev Pk := List Int × List Int
def RP : Reads Pk := fun w S u p => ∃ a b, u = [a, b] ∧ BytesAt w S a p.1 ∧ BytesAt w S b p.2
theorem RP.st : Stable RP := fun _ _ _ _ _ _ ⟨a, b, hu, h, h'⟩ ho hs => ⟨a, b, hu, h.off ho hs, h'.off ho hs⟩
theorem RP.pl : Plain 2 RP := by
  rintro w S u p ⟨a, b, rfl, h, h'⟩
  refine ⟨rfl, fun x hx => ?_⟩
  simp at hx
  rcases hx with rfl | rfl
  · exact h.one
  · exact h'.one
theorem Try.info77 : (Try.prog.info? 77).map (fun i => (i.zero, i.size, i.bytes)) = some (some (.agg #[.slice none 0 0, .slice none 0 0]), 2, 48) := by kernel_rfl
theorem Try.info23b : (Try.prog.info? 23).map (fun i => (i.zero, i.size, i.bytes)) = some (some (.slice none 0 0), 1, 24) := by kernel_rfl

/-- The table at block pb. -/
structure Tt (w : World) (pb : Nat) (ps : List Pk) (c : Nat) (ro : Option Addr) (rl rc : Nat) : Prop where
  c0 : w.cell? ⟨pb, 0, none⟩ = some (.slice ro rl rc)
  c1 : w.cell? ⟨pb, 1, none⟩ = some (.int .i64 c)
  row : Lx 2 RP w ro rl rc ps
theorem Tt.later {w w' : World} {pb : Nat} {ps : List Pk} {c : Nat} {ro : Option Addr} {rl rc : Nat} (h : Tt w pb ps c ro rl rc) (hb : Below w.heap.size w w') : Tt w' pb ps c ro rl rc :=
  ⟨cell_later hb h.c0, cell_later hb h.c1, h.row.later RP.st hb⟩
theorem Lx.headP {w : World} {ao : Option Addr} {len cap : Nat} {l : List Pk} (h : Lx 2 RP w ao len cap l) (h0 : 0 < len) :
    ∃ b off, ao = some ⟨b, off, none⟩ ∧ ∀ j p, l[j]? = some p → ∃ ko kl kc vo vl vc, w.cell? ⟨b, off + j * 2, none⟩ = some (.slice ko kl kc) ∧ w.cell? ⟨b, off + j * 2 + 1, none⟩ = some (.slice vo vl vc) ∧ Tx w ko kl kc p.1 ∧ Tx w vo vl vc p.2 := by
  obtain ⟨b, off, rfl, hc⟩ := h.head RP.pl (by omega) h0
  refine ⟨b, off, rfl, fun j e he => ?_⟩
  obtain ⟨u, h1, k, v, rfl, ⟨ko, kl, kc, rfl, tk, _⟩, ⟨vo, vl, vc, rfl, tv, _⟩⟩ := hc j e he
  exact ⟨ko, kl, kc, vo, vl, vc, by simpa using h1 0 _ rfl, by simpa [Nat.add_assoc] using h1 1 _ rfl, tk, tv⟩

/-- packed.order. -/
theorem order_any (to : Option Addr) (tl tc : Nat) (lo : Option Addr) (ll lc : Nat) (ko : Option Addr) (kl kc : Nat) (ls ks : List Int) (w : World) (tL : Tx w lo ll lc ls) (tK : Tx w ko kl kc ks) (sl : ll ≤ 140737488351232) (sk : kl ≤ 140737488351232) :
    Calls Try.prog 71 #[.agg #[.slice to tl tc, .slice lo ll lc], .slice ko kl kc] w fun e w' => e = .returned (.int .i64 (if lessB ls ks = true then -1 else if lessB ks ls = true then 1 else 0)) ∧ Below w.heap.size w w' := by
  have bA : Below w.heap.size w (w.alloc (.cells #[.slice to tl tc, .slice lo ll lc] 77)) := (Below.refl _ _).alloc (Nat.le_refl _) _
  have cA : (w.alloc (.cells #[.slice to tl tc, .slice lo ll lc] 77)).cell? ⟨w.heap.size, 1, none⟩ = some (.slice lo ll lc) := by rw [cell_of_row _ w.heap.size _ _ 77 (0, 0) (heap_alloc_new w _)]; rfl
  have h1 := less_any lo ko ll lc kl kc ls ks _ (tL.later bA) (tK.later bA) sl sk
  have h2 := fun (V : World) (hV : Below w.heap.size w V) => less_any ko lo kl kc ll lc ks ls V (tK.later hV) (tL.later hV) sk sl
  cases hF : lessB ls ks with
  | true =>
    rw [hF] at h1
    go_enter Try.func71, Try.ntmps71
    go_wp2_with (go_at_call 35; with_reducible refine h1.mono ?_; rintro e W1 ⟨rfl, b1⟩)
    go_ret
    exact ⟨rfl, bA.trans (b1.mono bA.size)⟩
  | false =>
    rw [hF] at h1
    cases hG : lessB ks ls with
    | true =>
      rw [hG] at h2
      go_enter Try.func71, Try.ntmps71
      go_wp2_with (first
        | (go_at_call 35; with_reducible refine h1.mono ?_; rintro e W1 ⟨rfl, b1⟩; have B1 := bA.trans (b1.mono bA.size); have c1 := cell_later b1 cA; have h21 := h2 W1 B1; clear h1)
        | (go_at_call 35; with_reducible refine h21.mono ?_; rintro e W2 ⟨rfl, b2⟩))
      go_ret
      exact ⟨rfl, B1.trans (b2.mono B1.size)⟩
    | false =>
      rw [hG] at h2
      go_enter Try.func71, Try.ntmps71
      go_wp2_with (first
        | (go_at_call 35; with_reducible refine h1.mono ?_; rintro e W1 ⟨rfl, b1⟩; have B1 := bA.trans (b1.mono bA.size); have c1 := cell_later b1 cA; have h21 := h2 W1 B1; clear h1)
        | (go_at_call 35; with_reducible refine h21.mono ?_; rintro e W2 ⟨rfl, b2⟩))
      go_ret
      exact ⟨rfl, B1.trans (b2.mono B1.size)⟩

/-- packed.entries. -/
theorem pentries_any (X : List Nat) (to : Option Addr) (tl tc : Nat) (lo : Option Addr) (ll lc : Nat) (xs : List Int) (w : World) (tT : Tx w to tl tc xs) (st : tl ≤ 900000000) (hX : ∀ q ∈ X, q < w.heap.size) :
    Calls Try.prog 48 #[.agg #[.slice to tl tc, .slice lo ll lc]] w fun e w' => ∃ bo lb cb, e = .returned (.slice bo lb cb) ∧ Lx 3 (REx X) w' bo lb cb (entsOf xs) ∧ Below w.heap.size w w' := by
  have bA : Below w.heap.size w (w.alloc (.cells #[.slice to tl tc, .slice lo ll lc] 77)) := (Below.refl _ _).alloc (Nat.le_refl _) _
  have cA : (w.alloc (.cells #[.slice to tl tc, .slice lo ll lc] 77)).cell? ⟨w.heap.size, 0, none⟩ = some (.slice to tl tc) := by rw [cell_of_row _ w.heap.size _ _ 77 (0, 0) (heap_alloc_new w _)]; rfl
  cases hx : allB xs with
  | none =>
    have he : entsOf xs = [] := by unfold entsOf; rw [hx]; rfl
    rw [he]
    have h1 := all_nope to tl tc xs _ (tT.later bA) st hx
    go_enter Try.func48, Try.ntmps48
    go_wp2_with (go_at_call 28; with_reducible refine h1.mono ?_; rintro e W1 ⟨rfl, b1⟩)
    go_ret
    exact ⟨none, 0, 0, rfl, Lx.nil _ _ _, bA.trans (b1.mono bA.size)⟩
  | some es =>
    have he : entsOf xs = es := by unfold entsOf; rw [hx]; rfl
    rw [he]
    have h1 := all_yes X to tl tc xs _ (tT.later bA) st (fun q hq => by have := hX q hq; simp; omega) es hx
    go_enter Try.func48, Try.ntmps48
    go_wp2_with (go_at_call 28; with_reducible refine h1.mono ?_; rintro e W1 ⟨bo, lb, cb, rfl, x1, b1⟩)
    go_ret
    exact ⟨bo, lb, cb, rfl, x1, bA.trans (b1.mono bA.size)⟩
end Go.Proofs.Yteeemfohehpaeaa
