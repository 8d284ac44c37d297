/- The walks of Right, Live, and of the document's Live and right. -/
import Derived.Test.YtjbppedphadenaaGJoinP
import Derived.Test.YtjbppedphadenaaGSame
import Derived.Test.YtjbppedphadenaaFWalksI
namespace Go.Proofs.Ytjbppedphadenaa
set_option maxRecDepth 100000
open Go.RowKit Go.Sort

def riseB : List Ent → Bool
  | [] => true
  | [_] => true
  | x :: y :: l => lessB x.k y.k && riseB (y :: l)
theorem riseB_all : ∀ (es : List Ent), (∀ (i : Nat) (x y : Ent), es[i]? = some x → es[i + 1]? = some y → lessB x.k y.k = true) → riseB es = true
  | [], _ => rfl
  | [_], _ => rfl
  | x :: y :: l, h => by
    rw [riseB, h 0 x y rfl rfl, Bool.true_and]
    exact riseB_all (y :: l) (fun i a b ha hb => h (i + 1) a b (by simpa using ha) (by simpa using hb))
theorem riseB_at : ∀ (es : List Ent) (i : Nat) (x y : Ent), es[i]? = some x → es[i + 1]? = some y → lessB x.k y.k = false → riseB es = false
  | [], i, x, y, h, _, _ => by simp at h
  | [_], i, x, y, _, h, _ => by simp at h
  | a :: b :: l, 0, x, y, hx, hy, h => by
    simp at hx hy
    subst hx hy
    rw [riseB, h, Bool.false_and]
  | a :: b :: l, i + 1, x, y, hx, hy, h => by
    rw [riseB, riseB_at (b :: l) i x y (by simpa using hx) (by simpa using hy) h, Bool.and_false]
theorem riseB_of {es : List Ent} (h : RiseP es) : riseB es = true := riseB_all es (fun i x y hx hy => rises_pw.2 h i (i + 1) x y (by omega) hx hy)

set_option maxHeartbeats 4000000 in
theorem right_any (ao : Option Addr) (la ca : Nat) (es : List Ent) (w : World) (h : Lx 3 RE w ao la ca es) (sa : la ≤ 1000000) (sk : ∀ e ∈ es, e.k.length ≤ 1000000000) :
    Calls Try.prog 11 #[.slice ao la ca] w fun e w' => e = .returned (.bool (riseB es)) ∧ Below w.heap.size w w' := by
  have hl := h.len_eq
  have hle := h.le
  have htop := h.top
  unfold maxLen at htop
  go_enter Try.func11, Try.ntmps11
  go_wp2
  go_loopw [3] (fun s3 wr => ∃ k : Nat, 1 ≤ k ∧ s3 = .int .i64 k ∧ (k ≤ la ∨ k = 1) ∧ Hid (∀ (j : Nat) (x y : Ent), j + 1 < k → es[j]? = some x → es[j + 1]? = some y → lessB x.k y.k = true) ∧ Below w.heap.size w wr) (fun s3 _ => la - (intOf s3).toNat)
  case atStart => exact ⟨1, by omega, rfl, .inr rfl, fun j x y hj => (by omega), Below.refl _ _⟩
  case round =>
    obtain ⟨k, hk, rfl, hkl, heq, hb⟩ := hrel
    by_cases hk2 : k < la
    · obtain ⟨b, off, rfl, hc⟩ := h.headE (by omega)
      obtain ⟨p, rfl⟩ : ∃ p, k = p + 1 := ⟨k - 1, by omega⟩
      have hx : es[p]? = some (es[p]'(by omega)) := by simp
      have hy : es[p + 1]? = some (es[p + 1]'(by omega)) := by simp
      obtain ⟨ko, kl, kc, vo, vl, vc, c0, _, _, tk, _⟩ := hc p _ hx
      obtain ⟨ko', kl', kc', vo', vl', vc', d0, _, _, tk', _⟩ := hc (p + 1) _ hy
      have sx := sk _ (List.mem_of_getElem? hx)
      have sy := sk _ (List.mem_of_getElem? hy)
      generalize es[p]'(by omega) = x at hx tk sx
      generalize es[p + 1]'(by omega) = y at hy tk' sy
      rw [tk.len_eq] at sx
      rw [tk'.len_eq] at sy
      have hX : Hid (es[p]? = some x) := hx
      have hY : Hid (es[p + 1]? = some y) := hy
      clear hx hy hc
      have cq := fun d os => cell_regrown (cell_later hb c0) d os
      have dq' := fun d os => cell_regrown (cell_later hb d0) d os
      obtain ⟨F, hF⟩ : ∃ F, Hid (lessB x.k y.k = F) := ⟨_, rfl⟩
      have hord := fun d os => less_any ko ko' kl kc kl' kc' x.k y.k _ ((tk.later hb).later (below_regrown wr d os)) ((tk'.later hb).later (below_regrown wr d os)) (by omega) (by omega)
      rw [hF.out] at hord
      have hkI : (p : Int) + 1 < la := by omega
      go_wp2_with fail
      refine wp_region_quiet_below (by kernel_rfl) (by kernel_rfl) ?_
      repeat (go_big_quiet_step (first | (go_at_call 21; exact Calls.regrown_of (hord _ _))))
      (with_reducible refine wpQuiet_nil ?_)
      intro _ hw'
      obtain ⟨⟨dq, osq⟩, hw''⟩ := hw'
      subst hw''
      have hbq := below_tr2 hb (below_regrown wr dq osq)
      clear cq dq' hord
      generalize grow (redrawn wr dq) osq = V2 at hbq ⊢
      cases F with
      | true =>
        have hn : Hid (∀ (j : Nat) (x y : Ent), j + 1 < p + 1 + 1 → es[j]? = some x → es[j + 1]? = some y → lessB x.k y.k = true) := fun j a b hj ha hb' => by
          by_cases hjp : j = p
          · subst hjp; rw [hX.out] at ha; rw [hY.out] at hb'; cases ha; cases hb'; exact hF.out
          · exact heq.out j a b (by omega) ha hb'
        go_wp2
        go_roundw
        case rel => exact ⟨p + 1 + 1, by omega, by go_num, .inl (by omega), hn, hbq⟩
        case measure => simp [intOf]; omega
      | false =>
        have hn : Hid (riseB es = false) := riseB_at es p x y hX.out hY.out hF.out
        go_wp2
        go_ret
        exact ⟨ret_bool hn.out.symm, hbq⟩
    · have hkI : ¬ (k : Int) < la := by omega
      have hyes : Hid (riseB es = true) := riseB_all es (fun i x y hx hy => heq.out i x y (by have := (List.getElem?_eq_some_iff.1 hy).1; omega) hx hy)
      go_wp2
      go_ret
      exact ⟨ret_bool hyes.out.symm, hb⟩
set_option maxHeartbeats 4000000 in
theorem rright_any (ao : Option Addr) (la ca : Nat) (es : List Ent) (w : World) (h : Lx 3 RE w ao la ca es) (sa : la ≤ 1000000) :
    Calls Try.prog 16 #[.slice ao la ca] w fun e w' => e = .returned (.bool (riseB es)) ∧ Below w.heap.size w w' := by
  have hl := h.len_eq
  have hle := h.le
  have htop := h.top
  unfold maxLen at htop
  go_enter Try.func16, Try.ntmps16
  go_wp2
  go_loopw [3] (fun s3 wr => ∃ k : Nat, 1 ≤ k ∧ s3 = .int .i64 k ∧ (k ≤ la ∨ k = 1) ∧ Hid (∀ (j : Nat) (x y : Ent), j + 1 < k → es[j]? = some x → es[j + 1]? = some y → lessB x.k y.k = true) ∧ Below w.heap.size w wr) (fun s3 _ => la - (intOf s3).toNat)
  case atStart => exact ⟨1, by omega, rfl, .inr rfl, fun j x y hj => (by omega), Below.refl _ _⟩
  case round =>
    obtain ⟨k, hk, rfl, hkl, heq, hb⟩ := hrel
    by_cases hk2 : k < la
    · obtain ⟨b, off, rfl, hc⟩ := h.headE (by omega)
      obtain ⟨p, rfl⟩ : ∃ p, k = p + 1 := ⟨k - 1, by omega⟩
      have hx : es[p]? = some (es[p]'(by omega)) := by simp
      have hy : es[p + 1]? = some (es[p + 1]'(by omega)) := by simp
      obtain ⟨ko, kl, kc, vo, vl, vc, c0, _, _, tk, _⟩ := hc p _ hx
      obtain ⟨ko', kl', kc', vo', vl', vc', d0, _, _, tk', _⟩ := hc (p + 1) _ hy
      generalize es[p]'(by omega) = x at hx tk
      generalize es[p + 1]'(by omega) = y at hy tk'
      have hX : Hid (es[p]? = some x) := hx
      have hY : Hid (es[p + 1]? = some y) := hy
      clear hx hy hc
      have cq := fun d os => cell_regrown (cell_later hb c0) d os
      have dq' := fun d os => cell_regrown (cell_later hb d0) d os
      have s0 := fun d os => ((tk.later hb).later (below_regrown wr d os)).string
      have s1 := fun d os => ((tk'.later hb).later (below_regrown wr d os)).string
      have hless := str_less x.k y.k tk.rng tk'.rng
      obtain ⟨F, hF⟩ : ∃ F, Hid (lessB x.k y.k = F) := ⟨_, rfl⟩
      rw [hF.out] at hless
      generalize strOfNums x.k = SX at s0 hless
      generalize strOfNums y.k = SY at s1 hless
      have hkI : (p : Int) + 1 < la := by omega
      go_wp2_with fail
      refine wp_region_quiet_below (by kernel_rfl) (by kernel_rfl) ?_
      repeat (go_big_quiet_step (fail))
      (with_reducible refine wpQuiet_nil ?_)
      intro _ hw'
      obtain ⟨⟨dq, osq⟩, hw''⟩ := hw'
      subst hw''
      have hbq := below_tr2 hb (below_regrown wr dq osq)
      clear cq dq' s0 s1
      generalize grow (redrawn wr dq) osq = V2 at hbq ⊢
      cases F with
      | true =>
        have hn : Hid (∀ (j : Nat) (x y : Ent), j + 1 < p + 1 + 1 → es[j]? = some x → es[j + 1]? = some y → lessB x.k y.k = true) := fun j a b hj ha hb' => by
          by_cases hjp : j = p
          · subst hjp; rw [hX.out] at ha; rw [hY.out] at hb'; cases ha; cases hb'; exact hF.out
          · exact heq.out j a b (by omega) ha hb'
        go_wp2
        go_roundw
        case rel => exact ⟨p + 1 + 1, by omega, by go_num, .inl (by omega), hn, hbq⟩
        case measure => simp [intOf]; omega
      | false =>
        have hn : Hid (riseB es = false) := riseB_at es p x y hX.out hY.out hF.out
        go_wp2
        go_ret
        exact ⟨ret_bool hn.out.symm, hbq⟩
    · have hkI : ¬ (k : Int) < la := by omega
      have hyes : Hid (riseB es = true) := riseB_all es (fun i x y hx hy => heq.out i x y (by have := (List.getElem?_eq_some_iff.1 hy).1; omega) hx hy)
      go_wp2
      go_ret
      exact ⟨ret_bool hyes.out.symm, hb⟩
end Go.Proofs.Ytjbppedphadenaa
