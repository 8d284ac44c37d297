/- The walk of the statements' own 'known'. -/
import Derived.Test.YtjbppedphadenaaGConv
import Derived.Test.YtjbppedphadenaaGJoin
import Derived.Test.YtjbppedphadenaaGLive
namespace Go.Proofs.Ytjbppedphadenaa
set_option maxRecDepth 100000
open Go.RowKit Go.Sort

theorem lx_ent_one (V : World) {k v : Value} {e : Ent} (hk : BytesAt V [] k e.k) (hv : BytesAt V [] v e.v) (G : Bool) (hG : G = e.g) : Lx 3 RE (V.alloc (.cells #[k, v, .bool G] 26)) (some ⟨V.heap.size, 0, none⟩) 1 1 [e] := by
  have hb : Below V.heap.size V (V.alloc (.cells #[k, v, .bool G] 26)) := (Below.refl _ _).alloc (Nat.le_refl _) _
  refine ⟨rfl, Nat.le_refl _, by unfold maxLen; omega, fun h => (by cases h), fun ad ha j x hx => ?_⟩
  cases ha
  have hj : j = 0 := by have := (List.getElem?_eq_some_iff.1 hx).1; simp at this; omega
  subst hj
  simp at hx
  subst hx
  refine ⟨[k, v, .bool G], fun i y hy => ?_, k, v, by rw [hG], hk.off (.of_below hb) (by simp), hv.off (.of_below hb) (by simp)⟩
  have := cells3_at V V.heap.size rfl k v (.bool G) i y hy
  simpa using this
/-- Two lists in a row of their own. -/
theorem lx_two (V : World) {ao bo : Option Addr} {la ca lb cb : Nat} {a b : List Ent} (ha : Lx 3 RE V ao la ca a) (hb : Lx 3 RE V bo lb cb b) : Lx 1 RL (V.alloc (.cells #[.slice ao la ca, .slice bo lb cb] 23)) (some ⟨V.heap.size, 0, none⟩) 2 2 [a, b] := by
  have hB : Below V.heap.size V (V.alloc (.cells #[.slice ao la ca, .slice bo lb cb] 23)) := (Below.refl _ _).alloc (Nat.le_refl _) _
  refine ⟨rfl, Nat.le_refl _, by unfold maxLen; omega, fun h => (by cases h), fun ad had j x hx => ?_⟩
  cases had
  have hj : j < 2 := by have := (List.getElem?_eq_some_iff.1 hx).1; simpa using this
  have hj2 : j = 0 ∨ j = 1 := by omega
  rcases hj2 with rfl | rfl
  · simp at hx
    subst hx
    refine ⟨[.slice ao la ca], fun i y hy => ?_, ao, la, ca, rfl, (ha.later RE.stable hB).low [] (by simp)⟩
    have hi : i = 0 := by have := (List.getElem?_eq_some_iff.1 hy).1; simp at this; omega
    subst hi
    simp at hy
    subst hy
    exact cells_at V _ 23 0 _ rfl
  · simp at hx
    subst hx
    refine ⟨[.slice bo lb cb], fun i y hy => ?_, bo, lb, cb, rfl, (hb.later RE.stable hB).low [] (by simp)⟩
    have hi : i = 0 := by have := (List.getElem?_eq_some_iff.1 hy).1; simp at this; omega
    subst hi
    simp at hy
    subst hy
    exact cells_at V _ 23 1 _ rfl
theorem jin_nil : JIn [] := ⟨by simp [RowsP], by simp, by simp, by simp⟩
theorem jin_two {a b : List Ent} (ha : RiseP a) (hb : RiseP b) (la : a.length ≤ 1000) (lb : b.length ≤ 1000) (sa : ∀ e ∈ a, e.k.length ≤ 1000000000 ∧ e.v.length ≤ 1000000000) (sb : ∀ e ∈ b, e.k.length ≤ 1000000000 ∧ e.v.length ≤ 1000000000) : JIn [a, b] := by
  refine ⟨fun l hl => ?_, by simp, fun l hl => ?_, fun l hl => ?_⟩ <;> (simp at hl; rcases hl with rfl | rfl <;> assumption)
set_option maxHeartbeats 8000000 in
theorem known_any (w : World) : Calls Try.prog 13 #[] w fun e w' => e = .returned (.bool true) ∧ Below w.heap.size w w' := by
  go_enter Try.func13, Try.ntmps13
  go_wp2_with (first
    | (with_reducible show wpList _ _ _ (⟨some 3, _, _, _, _, _⟩ :: _) _ _; refine wpList_conv1 rfl _ rfl w w.heap.size 97 rfl rfl rfl (by omega) (by omega) ?_; intro W1 t1 b1)
    | (with_reducible show wpList _ _ _ (⟨some 5, _, _, _, _, _⟩ :: _) _ _; refine wpList_conv1 rfl _ rfl W1 W1.heap.size 50 rfl rfl rfl (by omega) (by omega) ?_; intro W2 t2 b2)
    | (with_reducible show wpList _ _ _ (⟨some 9, _, _, _, _, _⟩ :: _) _ _; refine wpList_conv1 rfl _ rfl (W2.alloc (.cells #[.slice (some ⟨w.heap.size, 0, none⟩) 1 1, .slice (some ⟨W1.heap.size, 0, none⟩) 1 1, .bool false] 26)) (W2.heap.size + 1) 97 (by simp) rfl rfl (by omega) (by omega) ?_; intro W3 t3 b3)
    | (with_reducible show wpList _ _ _ (⟨some 11, _, _, _, _, _⟩ :: _) _ _; refine wpList_conv1 rfl _ rfl W3 W3.heap.size 49 rfl rfl rfl (by omega) (by omega) ?_; intro W4 t4 b4)
    | (with_reducible show wpList _ _ _ (⟨some 14, _, _, _, _, _⟩ :: _) _ _; refine wpList_conv1 rfl _ rfl W4 W4.heap.size 98 rfl rfl rfl (by omega) (by omega) ?_; intro W5 t5 b5)
    | (with_reducible show wpList _ _ _ (⟨some 16, _, _, _, _, _⟩ :: _) _ _; refine wpList_conv1 rfl _ rfl W5 W5.heap.size 49 rfl rfl rfl (by omega) (by omega) ?_; intro W6 t6 b6))
  have n0 : ∀ (W : World) (ao : Option Addr) (l c : Nat) (xs : List Int), Tx W ao l c xs → BytesAt W [] (.slice ao l c) xs := fun W ao l c xs t => t.at [] (by simp)
  have lx1 := lx_ent_one W2 (e := ⟨[97], [50], false⟩) (n0 _ _ _ _ _ (t1.later b2)) (n0 _ _ _ _ _ t2) false rfl
  have t3' := n0 _ _ _ _ _ (((t3.later b4).later b5).later b6)
  have t4' := n0 _ _ _ _ _ ((t4.later b5).later b6)
  have t5' := n0 _ _ _ _ _ (t5.later b6)
  have t6' := n0 _ _ _ _ _ t6
  have lx2 := (lv_ent_two [] W6 (by simp) (e := ⟨[97], [49], false⟩) (e2 := ⟨[98], [49], false⟩) t3' t4' t5' t6' false false rfl rfl).read RE.stable
  have bA : Below W6.heap.size W6 (W6.alloc (.cells #[.slice (some ⟨W2.heap.size + 1, 0, none⟩) 1 1, .slice (some ⟨W3.heap.size, 0, none⟩) 1 1, .bool false, .slice (some ⟨W4.heap.size, 0, none⟩) 1 1, .slice (some ⟨W5.heap.size, 0, none⟩) 1 1, .bool false] 26)) := (Below.refl _ _).alloc (Nat.le_refl _) _
  have lx1' := ((((lx1.later RE.stable b3).later RE.stable b4).later RE.stable b5).later RE.stable b6).later RE.stable bA
  have lxA := lx_two _ lx1' lx2
  rw [show (W6.alloc (.cells #[.slice (some ⟨W2.heap.size + 1, 0, none⟩) 1 1, .slice (some ⟨W3.heap.size, 0, none⟩) 1 1, .bool false, .slice (some ⟨W4.heap.size, 0, none⟩) 1 1, .slice (some ⟨W5.heap.size, 0, none⟩) 1 1, .bool false] 26)).heap.size = W6.heap.size + 1 by simp] at lxA
  have hj := join_any _ _ _ _ _ lxA (jin_two (by simp) (by simp [lessB]) (by simp) (by simp) (by simp) (by simp))
  have hres : joinL [[⟨[97], [50], false⟩], [⟨[97], [49], false⟩, ⟨[98], [49], false⟩]] = [⟨[97], [50], false⟩, ⟨[98], [49], false⟩] := by rfl
  rw [hres] at hj
  have b16 : Below w.heap.size w W6 := below_tr2 (below_tr2 (below_tr2 (below_tr2 (below_tr2 (below_tr2 b1 b2) ((Below.refl _ _).alloc (Nat.le_refl _) _)) b3) b4) b5) b6
  have b17 := below_tr2 b16 (bA.alloc bA.size (.cells #[.slice (some ⟨W2.heap.size, 0, none⟩) 1 1, .slice (some ⟨W6.heap.size, 0, none⟩) 2 2] 23))
  clear lx1 lx2 lx1' lxA t1 t2 t3 t4 t5 t6 t3' t4' t5' t6' hres b1 b2 b3 b4 b5 b6
  generalize (W6.alloc (.cells #[.slice (some ⟨W2.heap.size + 1, 0, none⟩) 1 1, .slice (some ⟨W3.heap.size, 0, none⟩) 1 1, .bool false, .slice (some ⟨W4.heap.size, 0, none⟩) 1 1, .slice (some ⟨W5.heap.size, 0, none⟩) 1 1, .bool false] 26)).alloc (.cells #[.slice (some ⟨W2.heap.size, 0, none⟩) 1 1, .slice (some ⟨W6.heap.size, 0, none⟩) 2 2] 23) = W7 at hj b17 ⊢
  with_reducible refine hj.mono ?_
  clear hj
  rintro x V ⟨ro, rl, rc, rfl, hr, bV⟩
  have b18 := below_tr2 b17 bV
  have hrl := hr.len_eq
  simp at hrl
  subst hrl
  obtain ⟨g, o, rfl, hc⟩ := hr.headE (by omega)
  obtain ⟨_, _, _, uo, ul, uc, _, c1, _, _, tv0⟩ := hc 0 ⟨[97], [50], false⟩ rfl
  obtain ⟨jo, jl, jc, _, _, _, d0, _, _, tk1, _⟩ := hc 1 ⟨[98], [49], false⟩ rfl
  have s0 := tv0.string
  have s1 := tk1.string
  rw [show strOfNums (Ent.v ⟨[97], [50], false⟩) = { data := #[50] } by decide] at s0
  rw [show strOfNums (Ent.k ⟨[98], [49], false⟩) = { data := #[98] } by decide] at s1
  rw [Nat.zero_mul, Nat.add_zero] at c1
  rw [Nat.one_mul] at d0
  have hj0 := join_any none 0 0 [] V (Lx.nil _ _ _) jin_nil
  rw [show joinL [] = [] from rfl] at hj0
  clear hc hr tv0 tk1
  go_wp2_with fail
  with_reducible refine hj0.mono ?_
  clear hj0
  rintro x V2 ⟨zo, zl, zc, rfl, hz, bZ⟩
  have hzl := hz.len_eq
  simp at hzl
  subst hzl
  have b19 := below_tr2 b18 bZ
  clear hz c1 d0 s0 s1
  go_wp2_with (first
    | (with_reducible show wpList _ _ _ (⟨some 47, _, _, _, _, _⟩ :: _) _ _; refine wpList_unguard (by kernel_rfl) ?_; refine wpList_conv1 rfl _ rfl V2 V2.heap.size 97 rfl rfl rfl (by omega) (by omega) ?_; intro W8 t8 b8))
  have lx3 := lx_ent_one W8 (e := ⟨[97], [], true⟩) (n0 _ _ _ _ _ t8) (n0 _ _ _ _ _ (Tx.nil W8)) true rfl
  have hlv := live_any _ _ _ _ _ lx3 (by omega) (by simp)
  rw [show liveL [⟨[97], [], true⟩] = [] from rfl] at hlv
  have b20 := below_tr2 (below_tr2 b19 b8) ((Below.refl W8.heap.size W8).alloc (Nat.le_refl _) (.cells #[.slice (some ⟨V2.heap.size, 0, none⟩) 1 1, .slice none 0 0, .bool true] 26))
  clear lx3 t8
  go_wp2_with fail
  with_reducible refine hlv.mono ?_
  clear hlv
  rintro x V3 ⟨yo, yl, yc, rfl, hy, b9⟩
  have hyl := hy.len_eq
  simp at hyl
  subst hyl
  have b21 := below_tr2 b20 b9
  clear hy
  go_wp2
  go_ret
  exact ⟨rfl, b21⟩
end Go.Proofs.Ytjbppedphadenaa
