/- The walks of Range's own test, of slices.IndexFunc at it. -/
import Derived.Test.YteeemfohehpaeaaTTab
namespace Go.Proofs.Yteeemfohehpaeaa
set_option maxRecDepth 100000
open Go.RowKit Go.Sort

/-- Is it taken out of a range? -/
def delK (fs ts k : List Int) : Bool := lessB k fs || (decide (0 < ts.length) && !lessB k ts)

/-- The two ends, boxed. -/
structure Ends (w : World) (pf pt : Nat) (fs ts : List Int) : Prop where
  f : ∃ o l c, w.cell? ⟨pf, 0, none⟩ = some (.slice o l c) ∧ Tx w o l c fs ∧ l ≤ 1000000000
  t : ∃ o l c, w.cell? ⟨pt, 0, none⟩ = some (.slice o l c) ∧ Tx w o l c ts ∧ l ≤ 1000000000
theorem Ends.later {w w' : World} {pf pt : Nat} {fs ts : List Int} (h : Ends w pf pt fs ts) (hb : Below w.heap.size w w') : Ends w' pf pt fs ts := by
  obtain ⟨⟨o, l, c, h1, h2, h3⟩, ⟨o', l', c', h4, h5, h6⟩⟩ := h
  exact ⟨⟨o, l, c, cell_later hb h1, h2.later hb, h3⟩, ⟨o', l', c', cell_later hb h4, h5.later hb, h6⟩⟩

set_option maxHeartbeats 2000000 in
theorem del_any (pf pt : Nat) (fs ts : List Int) (ko : Option Addr) (kl kc : Nat) (V : Value) (G : Bool) (ks : List Int) (w : World) (_hV : V.oneCell' = true) (he : Ends w pf pt fs ts) (tk : Tx w ko kl kc ks) (sk : kl ≤ 1000000000) :
    Calls Try.prog 50 #[.agg #[.slice ko kl kc, V, .bool G], .pointer (some ⟨pf, 0, none⟩), .pointer (some ⟨pt, 0, none⟩)] w fun e w' => e = .returned (.bool (delK fs ts ks)) ∧ Below w.heap.size w w' := by
  obtain ⟨⟨fo, fl, fc, f0, tf, f9⟩, ⟨to, tl, tc, t0, tt, t9⟩⟩ := he
  have bA : Below w.heap.size w (w.alloc (.cells #[.slice ko kl kc, V, .bool G] 25)) := (Below.refl _ _).alloc (Nat.le_refl _) _
  have cA : (w.alloc (.cells #[.slice ko kl kc, V, .bool G] 25)).cell? ⟨w.heap.size, 0, none⟩ = some (.slice ko kl kc) := by rw [cell_of_row _ w.heap.size _ _ 25 (0, 0) (heap_alloc_new w _)]; rfl
  have f0A := cell_later bA f0
  have t0A := cell_later bA t0
  have h1 := less_any ko fo kl kc fl fc ks fs _ (tk.later bA) (tf.later bA) (by omega) (by omega)
  have h2 := fun (W : World) (hW : Below w.heap.size w W) => less_any ko to kl kc tl tc ks ts W (tk.later hW) (tt.later hW) (by omega) (by omega)
  have htl := tt.len_eq
  cases hF : lessB ks fs with
  | true =>
    rw [hF] at h1
    go_enter Try.func50, Try.ntmps50
    go_wp2_with (go_at_call 35; with_reducible refine h1.mono ?_; rintro e W1 ⟨rfl, b1⟩)
    go_ret
    exact ⟨by simp [delK, hF], bA.trans (b1.mono bA.size)⟩
  | false =>
    rw [hF] at h1
    by_cases hz : tl = 0
    · subst hz
      go_enter Try.func50, Try.ntmps50
      go_wp2_with (go_at_call 35; with_reducible refine h1.mono ?_; rintro e W1 ⟨rfl, b1⟩; have t01 := cell_later b1 t0A)
      go_ret
      exact ⟨by simp [delK, hF, htl], bA.trans (b1.mono bA.size)⟩
    · have hz0 : (0 : Int) < tl := by omega
      have hzd : decide (0 < ts.length) = true := by rw [htl]; simp; omega
      cases hG : lessB ks ts with
      | true =>
        rw [hG] at h2
        go_enter Try.func50, Try.ntmps50
        go_wp2_with (first
          | (go_at_call 35; with_reducible refine h1.mono ?_; rintro e W1 ⟨rfl, b1⟩; have B1 := bA.trans (b1.mono bA.size); have t01 := cell_later b1 t0A; have c01 := cell_later b1 cA; have h21 := h2 W1 B1; clear h1)
          | (go_at_call 35; with_reducible refine h21.mono ?_; rintro e W2 ⟨rfl, b2⟩))
        go_ret
        exact ⟨by simp [delK, hF, hG], B1.trans (b2.mono B1.size)⟩
      | false =>
        rw [hG] at h2
        go_enter Try.func50, Try.ntmps50
        go_wp2_with (first
          | (go_at_call 35; with_reducible refine h1.mono ?_; rintro e W1 ⟨rfl, b1⟩; have B1 := bA.trans (b1.mono bA.size); have t01 := cell_later b1 t0A; have c01 := cell_later b1 cA; have h21 := h2 W1 B1; clear h1)
          | (go_at_call 35; with_reducible refine h21.mono ?_; rintro e W2 ⟨rfl, b2⟩))
        go_ret
        exact ⟨by simp [delK, hF, hG, hzd], B1.trans (b2.mono B1.size)⟩

set_option maxHeartbeats 2000000 in
theorem indexf_any (ao : Option Addr) (la ca : Nat) (l : List Ent) (pf pt : Nat) (fs ts : List Int) (w : World) (h : Lx 3 RE w ao la ca l) (he : Ends w pf pt fs ts) (sk : ∀ e ∈ l, e.k.length ≤ 1000000000) :
    Calls Try.prog 72 #[.slice ao la ca, .func (.func 50) #[] #[.pointer (some ⟨pf, 0, none⟩), .pointer (some ⟨pt, 0, none⟩)]] w fun e w' =>
      ((∃ (i : Nat) (x : Ent), e = .returned (.int .i64 i) ∧ l[i]? = some x ∧ delK fs ts x.k = true ∧ ∀ y ∈ l.take i, delK fs ts y.k = false) ∨ (e = .returned (.int .i64 (-1)) ∧ ∀ y ∈ l, delK fs ts y.k = false)) ∧ Below w.heap.size w w' := by
  have hl := h.len_eq
  have htop := h.top
  have hle := h.le
  unfold maxLen at htop
  by_cases h0 : la = 0
  · subst h0
    have hn : l = [] := List.eq_nil_of_length_eq_zero hl
    subst hn
    go_enter Try.func72, Try.ntmps72
    go_wp2
    refine wp_loop_rounds 1 ?_
    rw [rounds_succ]
    go_wp2
    go_ret
    exact ⟨.inr ⟨rfl, by simp⟩, Below.refl _ _⟩
  · obtain ⟨b, off, rfl, hc⟩ := h.headE (by omega)
    go_enter Try.func72, Try.ntmps72
    go_wp2
    go_loopw [8] (fun s8 wr => ∃ k : Nat, k ≤ la ∧ s8 = .int .i64 k ∧ Hid (∀ y ∈ l.take k, delK fs ts y.k = false) ∧ Below w.heap.size w wr) (fun s8 _ => la - (intOf s8).toNat)
    case atStart => exact ⟨0, by omega, rfl, by show ∀ y ∈ _, _; simp, Below.refl _ _⟩
    case round =>
      obtain ⟨k, hk, rfl, hbef, hb⟩ := hrel
      by_cases hk2 : k < la
      · have hx : l[k]? = some (l[k]'(by omega)) := by simp
        obtain ⟨ko, kl, kc, vo, vl, vc, c0, c1, c2, tk, -⟩ := hc k _ hx
        have hsk := sk _ (List.getElem_mem (l := l) (n := k) (by omega))
        have htake := take_snoc l k _ hx
        generalize l[k]'(by omega) = e at hx c2 tk hsk htake
        rw [tk.len_eq] at hsk
        obtain ⟨G, hG⟩ : ∃ G, Hid (e.g = G) := ⟨_, rfl⟩
        rw [hG.out] at c2
        have c0 := cell_later hb c0
        have c1 := cell_later hb c1
        have c2 := cell_later hb c2
        have hd := del_any pf pt fs ts ko kl kc (.slice vo vl vc) G e.k wr rfl (he.later hb) (tk.later hb) hsk
        have hX : Hid (l[k]? = some e) := hx
        have htH : Hid (l.take (k + 1) = l.take k ++ [e]) := htake
        clear hx htake
        have hki : (k : Int) < la := by omega
        cases hF : delK fs ts e.k with
        | true =>
          rw [hF] at hd
          go_wp2_with (go_at_call 50; with_reducible refine hd.mono ?_; rintro e' V ⟨rfl, bV⟩)
          go_ret
          exact ⟨.inl ⟨k, e, rfl, hX.out, hF, hbef.out⟩, hb.trans (bV.mono hb.size)⟩
        | false =>
          rw [hF] at hd
          go_wp2_with (go_at_call 50; with_reducible refine hd.mono ?_; rintro e' V ⟨rfl, bV⟩)
          go_roundw
          case rel => exact ⟨k + 1, by omega, by go_num, by show ∀ y ∈ _, _; rw [htH.out]; intro y hy; rcases List.mem_append.1 hy with hy | hy; exact hbef.out y hy; simp at hy; subst hy; exact hF, hb.trans (bV.mono hb.size)⟩
          case measure => simp [intOf]; omega
      · have hki : ¬ (k : Int) < la := by omega
        go_wp2
        go_ret
        exact ⟨.inr ⟨rfl, fun y hy => hbef.out y (by rw [List.take_of_length_le (by omega)]; exact hy)⟩, hb⟩
end Go.Proofs.Yteeemfohehpaeaa
