/- The walks of alike, slices.EqualFunc over entries, Same. -/
import Derived.Test.YtjbppedphadenaaMOwn
namespace Go.Proofs.Ytjbppedphadenaa
set_option maxRecDepth 100000
open Go.RowKit Go.Sort

set_option maxHeartbeats 4000000 in
theorem alike_any (ko : Option Addr) (kl kc : Nat) (vo : Option Addr) (vl vc : Nat) (G : Bool) (ko' : Option Addr) (kl' kc' : Nat) (vo' : Option Addr) (vl' vc' : Nat) (G' : Bool) (a b : Ent) (w : World)
    (tk : Tx w ko kl kc a.k) (tv : Tx w vo vl vc a.v) (hg : a.g = G) (tk' : Tx w ko' kl' kc' b.k) (tv' : Tx w vo' vl' vc' b.v) (hg' : b.g = G') :
    Calls Try.prog 24 #[.agg #[.slice ko kl kc, .slice vo vl vc, .bool G], .agg #[.slice ko' kl' kc', .slice vo' vl' vc', .bool G']] w fun x w' => x = .returned (.bool (sameE a b)) ∧ Below w.heap.size w w' := by
  have hS : Hid (sameE a b = (a.k == b.k && G == G' && (G || a.v == b.v))) := by show _ = _; unfold sameE; rw [hg, hg']
  generalize sameE a b = R at hS ⊢
  clear hg hg'
  have bA : Below w.heap.size w ((w.alloc (.cells #[.slice ko kl kc, .slice vo vl vc, .bool G] 26)).alloc (.cells #[.slice ko' kl' kc', .slice vo' vl' vc', .bool G'] 26)) := ((Below.refl _ _).alloc (Nat.le_refl _) _).alloc (by simp) _
  have b1 := (Box.new w (.slice ko kl kc) (.slice vo vl vc) G).later ((Below.refl _ _).alloc (Nat.le_refl _) (.cells #[.slice ko' kl' kc', .slice vo' vl' vc', .bool G'] 26))
  have b2 := Box.new (w.alloc (.cells #[.slice ko kl kc, .slice vo vl vc, .bool G] 26)) (.slice ko' kl' kc') (.slice vo' vl' vc') G'
  rw [show (w.alloc (.cells #[.slice ko kl kc, .slice vo vl vc, .bool G] 26)).heap.size = w.heap.size + 1 by simp] at b2
  obtain ⟨F1, hF1⟩ : ∃ F, (a.k == b.k) = F := ⟨_, rfl⟩
  obtain ⟨F2, hF2⟩ : ∃ F, (a.v == b.v) = F := ⟨_, rfl⟩
  have e1 := bequal_any ko ko' kl kc kl' kc' a.k b.k _ (tk.later bA) (tk'.later bA) F1 hF1
  have e2 := bequal_any vo vo' vl vc vl' vc' a.v b.v _ (tv.later bA) (tv'.later bA) F2 hF2
  rw [hF1, hF2] at hS
  go_enter Try.func24, Try.ntmps24
  go_wp2_with fail
  generalize (w.alloc (.cells #[.slice ko kl kc, .slice vo vl vc, .bool G] 26)).alloc (.cells #[.slice ko' kl' kc', .slice vo' vl' vc', .bool G'] 26) = V at *
  obtain ⟨x0, x1, x2⟩ := b1
  obtain ⟨y0, y1, y2⟩ := b2
  clear hF1 hF2 tk tv tk' tv'
  with_reducible refine e1.mono ?_
  clear e1
  rintro x V1 ⟨rfl, rfl⟩
  cases F1 with
  | false =>
    go_wp2
    go_ret
    exact ⟨ret_bool (by rw [hS.out]; simp), bA⟩
  | true =>
    cases G <;> cases G'
    · go_wp2_with fail
      with_reducible refine e2.mono ?_
      rintro x V1 ⟨rfl, rfl⟩
      go_wp2
      go_ret
      exact ⟨ret_bool (by rw [hS.out]; simp), bA⟩
    · go_wp2
      go_ret
      exact ⟨ret_bool (by rw [hS.out]; simp), bA⟩
    · go_wp2
      go_ret
      exact ⟨ret_bool (by rw [hS.out]; simp), bA⟩
    · go_wp2
      go_ret
      exact ⟨ret_bool (by rw [hS.out]; simp), bA⟩
set_option maxHeartbeats 4000000 in
theorem eqfunc_any (ao bo : Option Addr) (la ca lb cb : Nat) (l m : List Ent) (w : World) (ha : Lx 3 RE w ao la ca l) (hm : Lx 3 RE w bo lb cb m) (sa : la ≤ 1000000) (sb : lb ≤ 1000000) :
    Calls Try.prog 23 #[.slice ao la ca, .slice bo lb cb, .func (Fn.func 24) #[] #[]] w fun e w' => e = .returned (.bool (sameL l m)) ∧ Below w.heap.size w w' := by
  have e1 := ha.len_eq
  have e2 := hm.len_eq
  by_cases hlen : la = lb
  · subst hlen
    by_cases h0 : 0 < la
    · obtain ⟨b, off, rfl, hc⟩ := ha.headE h0
      obtain ⟨b', off', rfl, hc'⟩ := hm.headE h0
      go_enter Try.func23, Try.ntmps23
      go_wp2
      go_loopw [7, 8, 9, 17] (fun _ _ _ s17 wr => ∃ k : Nat, k ≤ la ∧ s17 = .int .i64 k ∧ Hid (∀ (j : Nat) (x y : Ent), j < k → l[j]? = some x → m[j]? = some y → sameE x y = true) ∧ Below w.heap.size w wr) (fun _ _ _ s17 _ => la - (intOf s17).toNat)
      case atStart => exact ⟨0, by omega, rfl, fun j x y hj => (by omega), Below.refl _ _⟩
      case round =>
        obtain ⟨k, hk, rfl, heq, hb⟩ := hrel
        by_cases hk2 : k < la
        · have hx : l[k]? = some (l[k]'(by omega)) := by simp
          have hy : m[k]? = some (m[k]'(by omega)) := by simp
          obtain ⟨ko, kl, kc, vo, vl, vc, c0, c1, c2, tk, tv⟩ := hc k _ hx
          obtain ⟨ko', kl', kc', vo', vl', vc', d0, d1, d2, tk', tv'⟩ := hc' k _ hy
          generalize l[k]'(by omega) = x at hx c0 c1 c2 tk tv
          generalize m[k]'(by omega) = y at hy d0 d1 d2 tk' tv'
          have hX : Hid (l[k]? = some x) := hx
          have hY : Hid (m[k]? = some y) := hy
          clear hx hy
          obtain ⟨G, hG⟩ : ∃ G, Hid (x.g = G) := ⟨_, rfl⟩
          obtain ⟨G', hG'⟩ : ∃ G, Hid (y.g = G) := ⟨_, rfl⟩
          rw [hG.out] at c2
          rw [hG'.out] at d2
          have c0 := cell_later hb c0
          have c1 := cell_later hb c1
          have c2 := cell_later hb c2
          have bA : Below wr.heap.size wr (wr.alloc (.cells #[.slice ko kl kc, .slice vo vl vc, .bool G] 26)) := (Below.refl _ _).alloc (Nat.le_refl _) _
          have bB : Below w.heap.size w ((wr.alloc (.cells #[.slice ko kl kc, .slice vo vl vc, .bool G] 26)).alloc (.cells #[.slice ko' kl' kc', .slice vo' vl' vc', .bool G'] 26)) := (hb.alloc hb.size _).alloc (by have := hb.size; simp; omega) _
          have d0 := cell_later bA (cell_later hb d0)
          have d1 := cell_later bA (cell_later hb d1)
          have d2 := cell_later bA (cell_later hb d2)
          have hal := alike_any ko kl kc vo vl vc G ko' kl' kc' vo' vl' vc' G' x y _ (tk.later bB) (tv.later bB) hG.out (tk'.later bB) (tv'.later bB) hG'.out
          have hdone : sameE x y = true → Hid (∀ (j : Nat) (x y : Ent), j < k + 1 → l[j]? = some x → m[j]? = some y → sameE x y = true) := by
            intro hs j a b hj ha' hb'
            by_cases hjk : j = k
            · subst hjk; rw [hX.out] at ha'; rw [hY.out] at hb'; cases ha'; cases hb'; exact hs
            · exact heq.out j a b (by omega) ha' hb'
          have hnot : sameE x y = false → Hid (sameL l m = false) := fun hs => sameL_at hX.out hY.out hs
          have hkI : (k : Int) < la := by omega
          go_wp2_with fail
          with_reducible refine hal.mono ?_
          clear hal
          rintro r V ⟨rfl, bV⟩
          have bV2 := bB.trans (bV.mono bB.size)
          cases hF : sameE x y with
          | true =>
            have hd := hdone hF
            clear hdone hnot hF
            go_wp2
            go_roundw
            case rel => exact ⟨k + 1, by omega, by go_num, hd, bV2⟩
            case measure => simp [intOf]; omega
          | false =>
            have hd := hnot hF
            clear hdone hnot hF
            go_wp2
            go_ret
            exact ⟨ret_bool hd.out.symm, bV2⟩
        · have hka : k = la := by omega
          have hkI : ¬ (k : Int) < la := by omega
          have hyes : Hid (sameL l m = true) := sameL_all l m (by omega) (fun j x y hx hy => heq.out j x y (by have := (List.getElem?_eq_some_iff.1 hx).1; omega) hx hy)
          go_wp2
          go_ret
          exact ⟨ret_bool hyes.out.symm, hb⟩
    · have h00 : la = 0 := by omega
      subst h00
      have : l = [] := List.eq_nil_of_length_eq_zero e1
      have : m = [] := List.eq_nil_of_length_eq_zero e2
      subst l m
      go_enter Try.func23, Try.ntmps23
      go_wp2
      go_loopw [7, 8, 9, 17] (fun _ _ _ s17 wr => s17 = .int .i64 0 ∧ w = wr) (fun _ _ _ _ _ => 0)
      case atStart => exact ⟨rfl, rfl⟩
      case round =>
        obtain ⟨rfl, rfl⟩ := hrel
        go_wp2
        go_ret
        exact ⟨rfl, Below.refl _ _⟩
  · have hno := sameL_len (l := l) (m := m) (by omega)
    have hn : ((la : Int) == (lb : Int)) = false := by simp; omega
    go_enter Try.func23, Try.ntmps23
    go_wp2
    go_ret
    exact ⟨ret_bool hno.symm, Below.refl _ _⟩
theorem same_any (ao bo : Option Addr) (la ca lb cb : Nat) (l m : List Ent) (w : World) (ha : Lx 3 RE w ao la ca l) (hm : Lx 3 RE w bo lb cb m) (sa : la ≤ 1000000) (sb : lb ≤ 1000000) :
    Calls Try.prog 12 #[.slice ao la ca, .slice bo lb cb] w fun e w' => e = .returned (.bool (sameL l m)) ∧ Below w.heap.size w w' := by
  have he := eqfunc_any ao bo la ca lb cb l m w ha hm sa sb
  go_enter Try.func12, Try.ntmps12
  go_wp2_with fail
  with_reducible refine he.mono ?_
  rintro e V ⟨rfl, bV⟩
  go_wp2
  go_ret
  exact ⟨rfl, bV⟩
end Go.Proofs.Ytjbppedphadenaa
