/- The walk of the statements' own 'known'. -/
import Derived.Test.YtjajpnlhdbcnkaaMPut
namespace Go.Proofs.Ytjajpnlhdbcnkaa
set_option maxRecDepth 100000
open Go.RowKit Go.Sort

/-- A text of one sign, as bytes. -/
theorem wpList_conv1 {ops : Array Oper} {rest : List Oper} {o : Oper} {a : Act} {w : World} {Q : Exit → Act → World → Prop}
    (hg : o.guard = none) (x : Operand) (hop : o.op = .convert 25 25 x) (V : World) (b : Nat) (n : Int) (hb : b = V.heap.size) (hx : a.eval x = .slice (some ⟨b, 0, none⟩) 1 1) (hw : w = V.alloc (.cells #[.int .u8 n] 5)) (h1 : 0 ≤ n) (h2 : n ≤ 255)
    (hK : ∀ W, Tx W (some ⟨b, 0, none⟩) 1 1 [n] → Below V.heap.size V W → wpList Try.prog ops Q rest (a.put o.dst (.slice (some ⟨b, 0, none⟩) 1 1)) W) :
    wpList Try.prog ops Q (o :: rest) a w := by
  subst hb hw
  refine wpList_plain hg fun K hKK => ?_
  have hrun := Lib.run_convert_bytes_const (P := Try.prog) V 25 5 #[.int .u8 n] 1 1 Try.underlying25 Try.underlying5
  unfold Oper.wp
  simp [execOp, hop, hx, hrun, Result.andThen]
  exact hKK _ _ (hK _ (tx_mark V #[.int .u8 n] (1, 2) [n] 1 rfl rfl (by omega) (by simp; omega)) ((Below.refl _ _).alloc (Nat.le_refl _) _))
theorem cells_at (V : World) (cs : Array Value) (t : TypeId) (j : Nat) (x : Value) (h : cs[j]? = some x) : (V.alloc (.cells cs t)).cell? ⟨V.heap.size, j, none⟩ = some x := by
  rw [cell_of_row _ V.heap.size j cs t (0, 0) (heap_alloc_new V _)]; exact h
theorem lv_ent_two (X : List Nat) (V : World) (hX : ∀ q ∈ X, q < V.heap.size) {k v k2 v2 : Value} {e e2 : Ent} (hk : BytesAt V X k e.k) (hv : BytesAt V X v e.v) (hk2 : BytesAt V X k2 e2.k) (hv2 : BytesAt V X v2 e2.v) (G G2 : Bool) (hG : G = e.g) (hG2 : G2 = e2.g) : Lv 3 RE X (V.alloc (.cells #[k, v, .bool G, k2, v2, .bool G2] 27)) (some ⟨V.heap.size, 0, none⟩) 2 2 [e, e2] := by
  have hb : Below V.heap.size V (V.alloc (.cells #[k, v, .bool G, k2, v2, .bool G2] 27)) := (Below.refl _ _).alloc (Nat.le_refl _) _
  refine ⟨⟨rfl, Nat.le_refl _, by unfold maxLen; omega, fun h => (by cases h), fun ad ha j x hx => ?_⟩, fun ad ha _ hk => by cases ha; have := hX _ hk; simp at this⟩
  cases ha
  have hj : j < 2 := by have := (List.getElem?_eq_some_iff.1 hx).1; simpa using this
  have hj2 : j = 0 ∨ j = 1 := by omega
  rcases hj2 with rfl | rfl
  · simp at hx
    subst hx
    refine ⟨[k, v, .bool G], fun i y hy => ?_, k, v, by rw [hG], hk.off (.of_below hb) (fun q hq => .inl (by simpa using hq)), hv.off (.of_below hb) (fun q hq => .inl (by simpa using hq))⟩
    have hi : i < 3 := by have := (List.getElem?_eq_some_iff.1 hy).1; simpa using this
    rw [Addr.add_lit, Nat.zero_mul, Nat.zero_add, Nat.zero_add]
    refine cells_at V _ 27 i y ?_
    have h3 : i = 0 ∨ i = 1 ∨ i = 2 := by omega
    rcases h3 with rfl | rfl | rfl <;> simpa using hy
  · simp at hx
    subst hx
    refine ⟨[k2, v2, .bool G2], fun i y hy => ?_, k2, v2, by rw [hG2], hk2.off (.of_below hb) (fun q hq => .inl (by simpa using hq)), hv2.off (.of_below hb) (fun q hq => .inl (by simpa using hq))⟩
    have hi : i < 3 := by have := (List.getElem?_eq_some_iff.1 hy).1; simpa using this
    rw [Addr.add_lit, Nat.zero_add]
    refine cells_at V _ 27 _ y ?_
    have h3 : i = 0 ∨ i = 1 ∨ i = 2 := by omega
    rcases h3 with rfl | rfl | rfl <;> simpa using hy


set_option maxHeartbeats 8000000 in
theorem known_any (w : World) : Calls Try.prog 11 #[] w fun e w' => e = .returned (.bool true) ∧ Below w.heap.size w w' := by
  go_enter Try.func11, Try.ntmps11
  go_wp2_with fail
  with_reducible refine (new_any w).mono ?_
  rintro e W0 ⟨mb, rfl, M0, hmb, b0⟩
  have hm0 : mb < W0.heap.size := M0.lt mb (by simp)
  go_wp2_with (first
    | (with_reducible show wpList _ _ _ (⟨some 12, _, _, _, _, _⟩ :: _) _ _; refine wpList_conv1 rfl _ rfl W0 W0.heap.size 98 rfl rfl rfl (by omega) (by omega) ?_; intro W1 t1 b1)
    | (with_reducible show wpList _ _ _ (⟨some 15, _, _, _, _, _⟩ :: _) _ _; refine wpList_conv1 rfl _ rfl W1 W1.heap.size 97 rfl rfl rfl (by omega) (by omega) ?_; intro W2 t2 b2))
  have b02 := below_tr2 b1 b2
  have t1b := t1.later b2
  have hs1 := b1.size
  have hs2 := b2.size
  have hv := lv_ent_two [mb] W2 (by simp; omega) (e := ⟨[98], [], false⟩) (e2 := ⟨[97], [], true⟩) (t1b.at [mb] (by intro ad ha _ hk; cases ha; simp at hk; omega)) ((Tx.nil W2).at [mb] (by intro ad ha; cases ha)) (t2.at [mb] (by intro ad ha _ hk; cases ha; simp at hk; omega)) ((Tx.nil W2).at [mb] (by intro ad ha; cases ha)) false true rfl rfl
  have bA : Below W2.heap.size W2 (W2.alloc (.cells #[.slice (some ⟨W0.heap.size, 0, none⟩) 1 1, .slice none 0 0, .bool false, .slice (some ⟨W1.heap.size, 0, none⟩) 1 1, .slice none 0 0, .bool true] 27)) := (Below.refl _ _).alloc (Nat.le_refl _) _
  have M2 := (M0.later b02).later bA
  have hpt := mput_any mb [mb] [] 0 _ 2 2 [⟨[98], [], false⟩, ⟨[97], [], true⟩] _ M2 Held.nil hv (by intro e he; simp at he; rcases he with rfl | rfl <;> rfl) (by omega) (by intro e he; simp at he; rcases he with rfl | rfl <;> simp)
  have hres : putL [] [⟨[98], [], false⟩, ⟨[97], [], true⟩] = [⟨[97], [], true⟩, ⟨[98], [], false⟩] := by rfl
  rw [hres] at hpt
  with_reducible refine hpt.mono ?_
  clear hpt hv
  rintro e W3 ⟨rfl, S', M3, of3, sub3⟩
  have b3 : Below w.heap.size w W3 := by
    have h1 := b0.trans ((below_tr2 b02 bA).mono b0.size)
    exact h1.trans (of3.below (by simp; omega) h1.size)
  have hH : Held 2 [⟨[97], [], true⟩, ⟨[98], [], false⟩] := ⟨by decide, by intro e he; simp at he; rcases he with rfl | rfl <;> rfl, by simp⟩
  clear M2 bA b02 t1b hs1 hs2 t1 t2 b1 b2 M0 b0 hm0 hmb of3 sub3 hres
  go_wp2_with (first
    | (with_reducible show wpList _ _ _ (⟨some 22, _, _, _, _, _⟩ :: _) _ _; refine wpList_conv1 rfl _ rfl W3 W3.heap.size 97 rfl rfl rfl (by omega) (by omega) ?_; intro W4 t4 b4))
  have hg1 := mget_any mb S' _ 2 _ 1 1 [97] W4 (M3.later b4) hH (by omega) t4 (by omega)
  with_reducible refine hg1.mono ?_
  clear hg1
  rintro e W5 ⟨(⟨en, ko, kl, kc, vo, vl, vc, hs, rfl, tk, tv⟩ | ⟨hn, rfl⟩), b5⟩
  rotate_left
  · have h9 : getL [⟨[97], [], true⟩, ⟨[98], [], false⟩] [97] = some ⟨[97], [], true⟩ := by rfl
    rw [h9] at hn; cases hn
  have h9 : getL [⟨[97], [], true⟩, ⟨[98], [], false⟩] [97] = some ⟨[97], [], true⟩ := by rfl
  rw [h9] at hs
  cases hs
  clear h9 t4 tk tv
  have bB : Below W5.heap.size W5 (W5.alloc (.cells #[.slice ko kl kc, .slice vo vl vc, .bool true] 27)) := (Below.refl _ _).alloc (Nat.le_refl _) _
  have x1 := Box.new W5 (.slice ko kl kc) (.slice vo vl vc) true
  have b35 := below_tr2 (below_tr2 b4 b5) bB
  go_wp2_with (first
    | (with_reducible show wpList _ _ _ (⟨some 29, _, _, _, _, _⟩ :: _) _ _; refine wpList_conv1 rfl _ rfl (W5.alloc (.cells #[.slice ko kl kc, .slice vo vl vc, .bool true] 27)) (W5.heap.size + 1) 99 (by simp) rfl rfl (by omega) (by omega) ?_; intro W6 t6 b6))
  have b36 := below_tr2 b35 b6
  have x2 := x1.later b6
  have hg2 := mget_any mb S' _ 2 _ 1 1 [99] W6 (M3.later b36) hH (by omega) t6 (by omega)
  with_reducible refine hg2.mono ?_
  clear hg2
  rintro e W7 ⟨(⟨en, ko2, kl2, kc2, vo2, vl2, vc2, hs, rfl, tk2, tv2⟩ | ⟨hn, rfl⟩), b7⟩
  · have h9 : getL [⟨[97], [], true⟩, ⟨[98], [], false⟩] [99] = none := by rfl
    rw [h9] at hs; cases hs
  clear t6 hn
  have bC : Below W7.heap.size W7 (W7.alloc (.cells #[.slice none 0 0, .slice none 0 0, .bool false] 27)) := (Below.refl _ _).alloc (Nat.le_refl _) _
  have b37 := below_tr2 (below_tr2 b36 b7) bC
  have x3 := (x2.later b7).later bC
  have hal := mall_any mb S' _ 2 _ (M3.later b37) hH (by omega)
  go_wp2_with fail
  generalize W7.alloc (.cells #[.slice none 0 0, .slice none 0 0, .bool false] 27) = U at b37 x3 hal ⊢
  with_reducible refine hal.mono ?_
  clear hal
  rintro e W8 ⟨ao, ac, rfl, ls8, b8⟩
  have b38 := below_tr2 b37 b8
  have x4 := x3.later b8
  have hln := mlen_any mb S' _ W8 (M3.later b38)
  obtain ⟨g, o, hao, hc⟩ := ((ls8.weak (_n := 0)).lx).headE (by simp)
  subst hao
  obtain ⟨jo, jl, jc, uo, ul, uc, c0, _, _, tj, _⟩ := hc 0 ⟨[97], [], true⟩ rfl
  have s8 := tj.string
  rw [show strOfNums (Ent.k ⟨[97], [], true⟩) = { data := #[97] } by decide] at s8
  rw [Nat.zero_mul, Nat.add_zero] at c0
  obtain ⟨x40, x41, x42⟩ := x4
  clear hc tj ls8 x3 x2 x1
  go_wp2_with fail
  with_reducible refine hln.mono ?_
  rintro e W9 ⟨rfl, rfl⟩
  go_wp2
  go_ret
  exact ⟨rfl, b3.trans (b38.mono b3.size)⟩
end Go.Proofs.Ytjajpnlhdbcnkaa
