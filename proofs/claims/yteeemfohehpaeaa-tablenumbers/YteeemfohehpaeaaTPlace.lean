/- The walks of slices.BinarySearchFunc at blocks, and of table.place. -/
import Derived.Test.YteeemfohehpaeaaTTab
namespace Go.Proofs.Yteeemfohehpaeaa
set_option maxRecDepth 100000
open Go.RowKit Go.Sort

/-- The place n: all ahead of it end ahead of the Key, it does not. -/
structure PlaceL (ps : List Pk) (ks : List Int) (n : Nat) : Prop where
  le : n ≤ ps.length
  lo : ∀ (j : Nat) (p : Pk), j < n → ps[j]? = some p → lessB p.2 ks = true
  hi : ∀ p, ps[n]? = some p → lessB p.2 ks = false

set_option maxHeartbeats 4000000 in
theorem bsearch_any (ro : Option Addr) (rl rc : Nat) (ps : List Pk) (ko : Option Addr) (kl kc : Nat) (ks : List Int) (w : World) (hr : Lx 2 RP w ro rl rc ps) (tk : Tx w ko kl kc ks) (sl : rl ≤ 1000000) (sk : kl ≤ 140737488351232) (sp : ∀ p ∈ ps, p.2.length ≤ 1000000)
    (hmono : ∀ (i j : Nat) (p q : Pk), i < j → ps[i]? = some p → ps[j]? = some q → lessB p.2 q.2 = true) :
    Calls Try.prog 70 #[.slice ro rl rc, .slice ko kl kc, .func (.func 71) #[] #[]] w fun e w' => ∃ n b, e = .returned (.tuple #[.int .i64 (n : Nat), .bool b]) ∧ PlaceL ps ks n ∧ Below w.heap.size w w' := by
  have hl := hr.len_eq
  by_cases h0 : rl = 0
  · subst h0
    go_enter Try.func70, Try.ntmps70
    go_wp2
    refine wp_loop_rounds 1 ?_
    rw [rounds_succ]
    go_wp2
    go_ret2
    exact ⟨0, false, rfl, ⟨by omega, fun j p hj => by omega, fun p hp => by rw [List.eq_nil_of_length_eq_zero hl] at hp; simp at hp⟩, Below.refl _ _⟩
  · obtain ⟨b, off, rfl, hc⟩ := hr.headP (by omega)
    go_enter Try.func70, Try.ntmps70
    go_wp2
    go_loopw [9, 10] (fun s9 s10 wr => ∃ i j : Nat, i ≤ j ∧ j ≤ rl ∧ s9 = .int .i64 i ∧ s10 = .int .i64 j ∧ Hid (∀ (q : Nat) (p : Pk), q < i → ps[q]? = some p → lessB p.2 ks = true) ∧ Hid (∀ (q : Nat) (p : Pk), j ≤ q → ps[q]? = some p → lessB p.2 ks = false) ∧ Below w.heap.size w wr) (fun s9 s10 _ => (intOf s10).toNat - (intOf s9).toNat)
    case atStart => exact ⟨0, rl, by omega, by omega, rfl, rfl, fun q p hq => (by omega), fun q p hq hp => by have := (List.getElem?_eq_some_iff.1 hp).1; omega, Below.refl _ _⟩
    case round =>
      obtain ⟨i, j, hij, hj, rfl, rfl, hlo, hhi, hb⟩ := hrel
      by_cases hlt : i < j
      · have hh1 : i ≤ (i + j) / 2 ∧ (i + j) / 2 < j := by omega
        have hx : ps[(i + j) / 2]? = some (ps[(i + j) / 2]'(by omega)) := by simp
        obtain ⟨to, tl, tc, lo, ll, lc, c0, c1, tt, tl2⟩ := hc _ _ hx
        have hpl := sp _ (List.getElem_mem (l := ps) (n := (i + j) / 2) (by omega))
        generalize ps[(i + j) / 2]'(by omega) = p at hx tt tl2 hpl
        rw [tl2.len_eq] at hpl
        have c0r := cell_later hb c0
        have c1r := cell_later hb c1
        have hord := order_any to tl tc lo ll lc ko kl kc p.2 ks wr (tl2.later hb) (tk.later hb) (by omega) sk
        have hX : Hid (ps[(i + j) / 2]? = some p) := hx
        clear hx
        have hnext : lessB p.2 ks = true → Hid (∀ (q : Nat) (p' : Pk), q < (i + j) / 2 + 1 → ps[q]? = some p' → lessB p'.2 ks = true) := fun hl q p' hq hp' => by
          by_cases hqh : q = (i + j) / 2
          · subst hqh; rw [hX.out] at hp'; cases hp'; exact hl
          · exact lessB_trans _ _ _ (hmono q _ p' p (by omega) hp' hX.out) hl
        have hprev : lessB p.2 ks = false → Hid (∀ (q : Nat) (p' : Pk), (i + j) / 2 ≤ q → ps[q]? = some p' → lessB p'.2 ks = false) := fun hl q p' hq hp' => by
          by_cases hqh : q = (i + j) / 2
          · subst hqh; rw [hX.out] at hp'; cases hp'; exact hl
          · cases hh : lessB p'.2 ks with
            | false => rfl
            | true => have := lessB_trans _ _ _ (hmono _ q p p' (by omega) hX.out hp') hh; rw [hl] at this; cases this
        cases hF : lessB p.2 ks with
        | true =>
          have hn := hnext hF
          rw [hF] at hord
          clear hnext hprev
          go_wp2_with (go_at_call 71; with_reducible refine hord.mono ?_; rintro e V ⟨rfl, bV⟩)
          go_roundw
          case rel => exact ⟨(i + j) / 2 + 1, j, by omega, hj, by go_num, rfl, hn, hhi, hb.trans (bV.mono hb.size)⟩
          case measure => simp [intOf]; omega
        | false =>
          have hn := hprev hF
          rw [hF] at hord
          clear hnext hprev
          have hz : (if lessB ks p.2 = true then (1 : Int) else 0) = 0 ∨ (if lessB ks p.2 = true then (1 : Int) else 0) = 1 := by split <;> simp
          simp only [Bool.false_eq_true, if_false] at hord
          generalize (if lessB ks p.2 = true then (1 : Int) else 0) = z at hord hz
          have hz0 : ¬ z < 0 := by omega
          go_wp2_with (go_at_call 71; with_reducible refine hord.mono ?_; rintro e V ⟨rfl, bV⟩)
          go_roundw
          case rel => exact ⟨i, (i + j) / 2, by omega, by omega, rfl, by go_num, hlo, hn, hb.trans (bV.mono hb.size)⟩
          case measure => simp [intOf]; omega
      · have hij2 : i = j := by omega
        subst hij2
        have hP : Hid (PlaceL ps ks i) := ⟨by omega, hlo.out, fun p hp => hhi.out i p (Nat.le_refl _) hp⟩
        by_cases hir : i < rl
        · have hx : ps[i]? = some (ps[i]'(by omega)) := by simp
          obtain ⟨to, tl, tc, lo, ll, lc, c0, c1, tt, tl2⟩ := hc _ _ hx
          have hpl := sp _ (List.getElem_mem (l := ps) (n := i) (by omega))
          generalize ps[i]'(by omega) = p at hx tt tl2 hpl
          rw [tl2.len_eq] at hpl
          have c0r := cell_later hb c0
          have c1r := cell_later hb c1
          have hord := order_any to tl tc lo ll lc ko kl kc p.2 ks wr (tl2.later hb) (tk.later hb) (by omega) sk
          generalize (if lessB p.2 ks = true then (-1 : Int) else if lessB ks p.2 = true then 1 else 0) = z at hord
          clear hx
          go_wp2_with (go_at_call 71; with_reducible refine hord.mono ?_; rintro e V ⟨rfl, bV⟩)
          go_ret2
          exact ⟨i, _, rfl, hP.out, hb.trans (bV.mono hb.size)⟩
        · have hirI : ¬ (i : Int) < rl := by omega
          go_wp2
          go_ret2
          exact ⟨i, .inl rfl, hP.out, hb⟩

theorem place_any (pb : Nat) (ps : List Pk) (c : Nat) (ro : Option Addr) (rl rc : Nat) (ko : Option Addr) (kl kc : Nat) (ks : List Int) (w : World) (ht : Tt w pb ps c ro rl rc) (tk : Tx w ko kl kc ks) (sl : rl ≤ 1000000) (sk : kl ≤ 140737488351232) (sp : ∀ p ∈ ps, p.2.length ≤ 1000000)
    (hmono : ∀ (i j : Nat) (p q : Pk), i < j → ps[i]? = some p → ps[j]? = some q → lessB p.2 q.2 = true) :
    Calls Try.prog 45 #[.pointer (some ⟨pb, 0, none⟩), .slice ko kl kc] w fun e w' => ∃ n, e = .returned (.int .i64 (n : Nat)) ∧ PlaceL ps ks n ∧ Below w.heap.size w w' := by
  have c0 := ht.c0
  have hb := bsearch_any ro rl rc ps ko kl kc ks w ht.row tk sl sk sp hmono
  go_enter Try.func45, Try.ntmps45
  go_wp2_with (go_at_call 70; with_reducible refine hb.mono ?_; rintro e V ⟨n, b, rfl, hp, bV⟩)
  go_ret
  exact ⟨n, rfl, hp, bV⟩
end Go.Proofs.Yteeemfohehpaeaa
