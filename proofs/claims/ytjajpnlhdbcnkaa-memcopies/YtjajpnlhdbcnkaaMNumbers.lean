/- The walk of MemNumbers. -/
import Derived.Test.YtjajpnlhdbcnkaaMPlays
namespace Go.Proofs.Ytjajpnlhdbcnkaa
set_option maxRecDepth 100000
open Go.RowKit Go.Sort

/-- One entry in a row of its own. -/
theorem lv_ent_one (X : List Nat) (V : World) (hX : ∀ q ∈ X, q < V.heap.size) {k v : Value} {e : Ent} (hk : BytesAt V X k e.k) (hv : BytesAt V X v e.v) (G : Bool) (hG : G = e.g) : Lv 3 RE X (V.alloc (.cells #[k, v, .bool G] 27)) (some ⟨V.heap.size, 0, none⟩) 1 1 [e] := by
  have hb : Below V.heap.size V (V.alloc (.cells #[k, v, .bool G] 27)) := (Below.refl _ _).alloc (Nat.le_refl _) _
  refine ⟨⟨rfl, Nat.le_refl _, by unfold maxLen; omega, fun h => (by cases h), fun ad ha j x hx => ?_⟩, fun ad ha _ hk => by cases ha; have := hX _ hk; simp at this⟩
  cases ha
  have hj : j = 0 := by have := (List.getElem?_eq_some_iff.1 hx).1; simp at this; omega
  subst hj
  simp at hx
  subst hx
  refine ⟨[k, v, .bool G], fun i y hy => ?_, k, v, by rw [hG], hk.off (.of_below hb) (fun q hq => .inl (by simpa using hq)), hv.off (.of_below hb) (fun q hq => .inl (by simpa using hq))⟩
  rw [Nat.zero_mul, Nat.zero_add]
  exact cells3_at V V.heap.size rfl k v (.bool G) i y hy

set_option maxHeartbeats 8000000 in
theorem numbers_walk (w : World) : Calls Try.prog 3 #[] w fun e w' => e = .returned (.bool true) ∧ Below w.heap.size w w' := by
  go_enter Try.func3, Try.ntmps3
  go_wp2_with fail
  with_reducible refine (new_any w).mono ?_
  rintro e W0 ⟨mb, rfl, M0, hmb, b0⟩
  have hm0 : mb < W0.heap.size := M0.lt mb (by simp)
  go_wp2
  go_loopw [2, 3, 4] (fun s2 s3 _ wr => ∃ (i : Nat) (es : List Ent) (S : List Nat) (wo : Option Addr) (wc : Nat), i ≤ 60 ∧ s3 = .int .i64 i ∧ s2 = .slice wo es.length wc ∧ Held i es ∧ Mm wr mb S es ∧ Lv 3 RE S wr wo es.length wc es ∧ Hid (∀ k ∈ S, w.heap.size ≤ k) ∧ Below w.heap.size w wr) (fun _ s3 _ _ => 60 - (intOf s3).toNat)
  case atStart => exact ⟨0, [], [mb], none, 0, by omega, rfl, rfl, Held.nil, M0, Lv.nil _ _ _ _, fun k hk => by simp at hk; omega, b0⟩
  case round =>
    obtain ⟨i, es, S, wo, wc, hi, rfl, rfl, hH, hM, hL, hS, hb⟩ := hrel
    by_cases hi2 : i < 60
    · have hiI : (i : Int) < 60 := by omega
      revert hM hL hb
      generalize wr = W1
      intro hM hL hb
      have bA : Below W1.heap.size W1 (W1.alloc (.cells #[.int .u8 ((i : Int) * 7 % 13)] 5)) := (Below.refl _ _).alloc (Nat.le_refl _) _
      have tK := tx_one W1 ((i : Int) * 7 % 13) (by omega)
      obtain ⟨G, hG⟩ : ∃ G, ((i : Int) % 6 == 1) = G := ⟨_, rfl⟩
      have hsA : (W1.alloc (.cells #[.int .u8 ((i : Int) * 7 % 13)] 5)).heap.size = W1.heap.size + 1 := by simp
      have hsAH : Hid ((W1.alloc (.cells #[.int .u8 ((i : Int) * 7 % 13)] 5)).heap.size = W1.heap.size + 1) := hsA
      clear hsA
      go_wp2_with (first
        | (at_make; refine wpList_make_bytes _ rfl _ _ rfl _ _ _ _ (i % 5) rfl rfl (by omega) (by omega) (by omega) ?_; intro W3 row3 b3))
      rw [hsAH.out] at row3
      have b13 := below_tr2 bA b3
      have tK3 := tK.later b3
      have tV3 := row3.tx (i % 5) (by simp) (by omega) (by intro n hn; have := List.eq_of_mem_replicate hn; omega)
      have hw3 : W1.heap.size + 1 < W3.heap.size := row3.lt
      have hSlt := hM.lt
      have bx3 := Box.new W3 (.slice (some ⟨W1.heap.size, 0, none⟩) 1 1) (.slice (some ⟨W1.heap.size + 1, 0, none⟩) (i % 5) (i % 5)) G
      have b4 : Below W3.heap.size W3 (W3.alloc (.cells #[.slice (some ⟨W1.heap.size, 0, none⟩) 1 1, .slice (some ⟨W1.heap.size + 1, 0, none⟩) (i % 5) (i % 5), .bool G] 27)) := (Below.refl _ _).alloc (Nat.le_refl _) _
      have hkn : ∀ ad, (some (⟨W1.heap.size, 0, none⟩ : Addr)) = some ad → 0 < 1 → ad.block ∉ S := fun ad ha _ hk => by cases ha; have := hSlt _ hk; simp at this
      have hvn : ∀ ad, (some (⟨W1.heap.size + 1, 0, none⟩ : Addr)) = some ad → 0 < i % 5 → ad.block ∉ S := fun ad ha _ hk => by cases ha; have := hSlt _ hk; simp at this; omega
      have hlv := lv_ent_one S (W3.alloc (.cells #[.slice (some ⟨W1.heap.size, 0, none⟩) 1 1, .slice (some ⟨W1.heap.size + 1, 0, none⟩) (i % 5) (i % 5), .bool G] 27)) (fun q hq => by have := hSlt q hq; have := b4.size; omega) (e := ⟨[(i : Int) * 7 % 13], List.replicate (i % 5) 0, G⟩) ((tK3.later b4).at S hkn) ((tV3.later b4).at S hvn) G rfl
      have b5 : Below (W3.alloc (.cells #[.slice (some ⟨W1.heap.size, 0, none⟩) 1 1, .slice (some ⟨W1.heap.size + 1, 0, none⟩) (i % 5) (i % 5), .bool G] 27)).heap.size (W3.alloc (.cells #[.slice (some ⟨W1.heap.size, 0, none⟩) 1 1, .slice (some ⟨W1.heap.size + 1, 0, none⟩) (i % 5) (i % 5), .bool G] 27)) ((W3.alloc (.cells #[.slice (some ⟨W1.heap.size, 0, none⟩) 1 1, .slice (some ⟨W1.heap.size + 1, 0, none⟩) (i % 5) (i % 5), .bool G] 27)).alloc (.cells #[.slice (some ⟨W1.heap.size, 0, none⟩) 1 1, .slice (some ⟨W1.heap.size + 1, 0, none⟩) (i % 5) (i % 5), .bool G] 27)) := (Below.refl _ _).alloc (Nat.le_refl _) _
      have b15 := below_tr2 (below_tr2 b13 b4) b5
      have hfit : ∀ e ∈ [(⟨[(i : Int) * 7 % 13], List.replicate (i % 5) 0, G⟩ : Ent)], fitsE e = true ∧ e.k.length ≤ 1000000 ∧ e.v.length ≤ 1000000 := fun e he => by
        simp at he
        subst he
        refine ⟨(fitsE_iff _).2 ⟨by simp, by simp, .inr ?_⟩, by simp, ?_⟩ <;> simp <;> omega
      have hpt := mput_any mb S es i _ 1 1 [⟨[(i : Int) * 7 % 13], List.replicate (i % 5) 0, G⟩] _ (hM.later b15) hH hlv (fun e he => (hfit e he).1) (by omega) (fun e he => (hfit e he).2)
      have bx5 := (bx3.later b5)
      have tK5 := (tK3.later b4).later b5
      have tV5 := (tV3.later b4).later b5
      have hsz5 : (W3.alloc (.cells #[.slice (some ⟨W1.heap.size, 0, none⟩) 1 1, .slice (some ⟨W1.heap.size + 1, 0, none⟩) (i % 5) (i % 5), .bool G] 27)).heap.size = W3.heap.size + 1 := by simp
      rw [hsz5] at hpt
      have hL5 := hL.later RE.stable b15
      have B5 := hb.trans (b15.mono hb.size)
      clear b3 bA tK hlv bx3 tK3 tV3 b4 b5 hsz5 row3
      generalize (W3.alloc (.cells #[.slice (some ⟨W1.heap.size, 0, none⟩) 1 1, .slice (some ⟨W1.heap.size + 1, 0, none⟩) (i % 5) (i % 5), .bool G] 27)).alloc (.cells #[.slice (some ⟨W1.heap.size, 0, none⟩) 1 1, .slice (some ⟨W1.heap.size + 1, 0, none⟩) (i % 5) (i % 5), .bool G] 27) = W5 at hpt bx5 tK5 tV5 hL5 B5 ⊢
      with_reducible refine hpt.mono ?_
      clear hpt
      rintro e W6 ⟨rfl, S2, M6, of6, sub6⟩
      have B6 : Below w.heap.size w W6 := B5.trans (of6.below hS.out B5.size)
      have hS2 : Hid (∀ k ∈ S2, w.heap.size ≤ k) := sub_trans (a := w.heap.size) (fun k hk => .inl hk) hS.out sub6 B5.size
      have hb3n : W3.heap.size ∉ S := fun hk => by have := hSlt _ hk; omega
      have bx6 := bx5.off of6 hb3n
      have tK6 := tK5.off of6 hkn
      have tV6 := tV5.off of6 hvn
      have hL6 := hL5.off RE.stable RE.plain (by omega) of6 sub6
      have hH6 : Held (i + 1) (putL es [⟨[(i : Int) * 7 % 13], List.replicate (i % 5) 0, G⟩]) := hH.put _ (fun e he => (hfit e he).1)
      have b7 : Below W6.heap.size W6 (W6.alloc (.cells #[.slice (some ⟨W1.heap.size, 0, none⟩) 1 1, .slice (some ⟨W1.heap.size + 1, 0, none⟩) (i % 5) (i % 5), .bool G] 27)) := (Below.refl _ _).alloc (Nat.le_refl _) _
      have hlv7 := lv_ent_one [] W6 (by simp) (e := ⟨[(i : Int) * 7 % 13], List.replicate (i % 5) 0, G⟩) (tK6.at [] (by simp)) (tV6.at [] (by simp)) G rfl
      have hlx7 := hlv7.read RE.stable
      have hS2lt := (M6.later b7).lt
      have hrp := rput_any S2 wo es.length wc es _ 1 1 [⟨[(i : Int) * 7 % 13], List.replicate (i % 5) 0, G⟩] _ (hL6.later RE.stable b7).rx hlx7 (by have := hH.len; omega) (by omega) hS2lt (fun e he => (hfit e he).2)
      have hel := hH6.len
      generalize putL es [⟨[(i : Int) * 7 % 13], List.replicate (i % 5) 0, G⟩] = es2 at M6 hH6 hrp hel
      obtain ⟨x60, x61, x62⟩ := bx6
      clear hL5 hL6 hM hL tK5 tV5 bx5 hlv7 hlx7 tK6 tV6 hfit
      go_wp2_with fail
      have B7 := B6.trans (b7.mono B6.size)
      have M7 := M6.later b7
      generalize W6.alloc (.cells #[.slice (some ⟨W1.heap.size, 0, none⟩) 1 1, .slice (some ⟨W1.heap.size + 1, 0, none⟩) (i % 5) (i % 5), .bool G] 27) = W7 at hrp B7 M7 hS2lt ⊢
      with_reducible refine hrp.mono ?_
      clear hrp
      rintro e W8 ⟨ro, rl, rc, rfl, q8, b8⟩
      have hrl := q8.lx.len_eq
      subst hrl
      have B8 := B7.trans (b8.mono B7.size)
      have M8 := M7.later b8
      have L8 := q8.lv hS2lt
      clear q8 x60 x61 x62 M7 M6
      have b9 : Below W8.heap.size W8 (W8.alloc (.cells #[.int .u8 ((i : Int) % 14)] 5)) := (Below.refl _ _).alloc (Nat.le_refl _) _
      have t9 := tx_one W8 ((i : Int) % 14) (by omega)
      have b10 : Below (W8.alloc (.cells #[.int .u8 ((i : Int) % 14)] 5)).heap.size (W8.alloc (.cells #[.int .u8 ((i : Int) % 14)] 5)) ((W8.alloc (.cells #[.int .u8 ((i : Int) % 14)] 5)).alloc (.cells #[.int .u8 ((i : Int) % 11)] 5)) := (Below.refl _ _).alloc (Nat.le_refl _) _
      have t10 := tx_one (W8.alloc (.cells #[.int .u8 ((i : Int) % 14)] 5)) ((i : Int) % 11) (by omega)
      rw [show (W8.alloc (.cells #[.int .u8 ((i : Int) % 14)] 5)).heap.size = W8.heap.size + 1 by simp] at t10
      have b810 := below_tr2 b9 b10
      have ht1 := tells_any mb S2 es2 (i + 1) ro rc _ 1 1 _ _ 1 1 _ _ (M8.later b810) hH6 (by omega) ((L8.read RE.stable).later RE.stable b810) (t9.later b10) t10 (by omega) (by omega)
      go_wp2_with fail
      have B10 := B8.trans (b810.mono B8.size)
      have M10 := M8.later b810
      have L10 := L8.later RE.stable b810
      generalize (W8.alloc (.cells #[.int .u8 ((i : Int) % 14)] 5)).alloc (.cells #[.int .u8 ((i : Int) % 11)] 5) = W10 at ht1 B10 M10 L10 ⊢
      with_reducible refine ht1.mono ?_
      clear ht1 t9 t10 b9 b10 b810 M8 L8
      rintro e W11 ⟨rfl, b11⟩
      have ht2 := tells_any mb S2 es2 (i + 1) ro rc none 0 0 [] none 0 0 [] W11 (M10.later b11) hH6 (by omega) ((L10.read RE.stable).later RE.stable b11) (Tx.nil _) (Tx.nil _) (by omega) (by omega)
      go_wp2_with fail
      with_reducible refine ht2.mono ?_
      clear ht2
      rintro e W12 ⟨rfl, b12⟩
      have b1012 := below_tr2 b11 b12
      have M12 := M10.later b1012
      have L12 := L10.later RE.stable b1012
      have B12 := B10.trans (b1012.mono B10.size)
      clear M10 L10 B10 B8 B7 B6 B5 hel
      go_wp2
      go_roundw
      case rel => exact ⟨i + 1, es2, S2, ro, rc, by omega, by go_num, rfl, hH6, M12, L12, hS2, B12⟩
      case measure => simp [intOf]; omega
    · have hiI : ¬ (i : Int) < 60 := by omega
      go_wp2_with (go_at_call 11; with_reducible refine (known_any wr).mono ?_; rintro e W9 ⟨rfl, b9⟩)
      go_ret
      exact ⟨rfl, hb.trans (b9.mono hb.size)⟩
end Go.Proofs.Ytjajpnlhdbcnkaa
