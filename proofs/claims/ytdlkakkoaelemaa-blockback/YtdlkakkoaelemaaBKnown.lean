/- The walk of the statements' own 'known'. -/
import Derived.Test.YtdlkakkoaelemaaBWalksG
import Derived.Test.YtdlkakkoaelemaaFNumLaw
namespace Go.Proofs.Ytdlkakkoaelemaa
open Go.RowKit

theorem build_yes (ao : Option Addr) (len cap : Nat) (l : List Ent) (w : World) (h : Lx 3 RE w ao len cap l) (hs : ∀ e ∈ l, e.k.length ≤ 1000000000000) (hm : mayB 255 l = true) (hf : fitB 0 0 [] l = true) (bs : List Int) (hbs : blockL l = bs) :
    Calls Try.prog 14 #[.slice ao len cap] w fun e w' => ∃ bo lb cb, e = .returned (.tuple #[.slice bo lb cb, .int .i64 0]) ∧ Tx w' bo lb cb bs ∧ Below w.heap.size w w' := by
  refine (build_any ao len cap l w h hs).mono ?_
  rintro e w' (⟨h1, _⟩ | ⟨_, h2, _⟩ | ⟨_, _, bo, lb, cb, rfl, g, b⟩)
  · rw [hm] at h1; cases h1
  · rw [hf] at h2; cases h2
  · exact ⟨bo, lb, cb, rfl, by rw [← hbs]; exact g.tx, b⟩
theorem build_arg (ao : Option Addr) (len cap : Nat) (l : List Ent) (w : World) (h : Lx 3 RE w ao len cap l) (hs : ∀ e ∈ l, e.k.length ≤ 1000000000000) (hm : mayB 255 l = false) :
    Calls Try.prog 14 #[.slice ao len cap] w fun e w' => e = .returned (.tuple #[.slice none 0 0, .int .i64 1]) ∧ Below w.heap.size w w' := by
  refine (build_any ao len cap l w h hs).mono ?_
  rintro e w' (⟨_, h2, h3⟩ | ⟨h1, _⟩ | ⟨h1, _⟩)
  · exact ⟨h2, h3⟩
  · rw [hm] at h1; cases h1
  · rw [hm] at h1; cases h1
theorem build_long (ao : Option Addr) (len cap : Nat) (l : List Ent) (w : World) (h : Lx 3 RE w ao len cap l) (hs : ∀ e ∈ l, e.k.length ≤ 1000000000000) (hm : mayB 255 l = true) (hf : fitB 0 0 [] l = false) :
    Calls Try.prog 14 #[.slice ao len cap] w fun e w' => e = .returned (.tuple #[.slice none 0 0, .int .i64 3]) ∧ Below w.heap.size w w' := by
  refine (build_any ao len cap l w h hs).mono ?_
  rintro e w' (⟨h1, _⟩ | ⟨_, _, h2, h3⟩ | ⟨_, h2, _⟩)
  · rw [hm] at h1; cases h1
  · exact ⟨h2, h3⟩
  · rw [hf] at h2; cases h2
theorem all_yes (X : List Nat) (ao : Option Addr) (la ca : Nat) (xs : List Int) (w : World) (ha : Tx w ao la ca xs) (sa : la ≤ 900000000) (hX : ∀ q ∈ X, q < w.heap.size) (es : List Ent) (h : allB xs = some es) :
    Calls Try.prog 15 #[.slice ao la ca] w fun e w' => ∃ bo lb cb, e = .returned (.tuple #[.slice bo lb cb, .int .i64 0]) ∧ Lx 3 (REx X) w' bo lb cb es ∧ Below w.heap.size w w' := by
  refine (all_any X ao la ca xs w ha sa hX).mono ?_
  rintro e w' (⟨es', bo, lb, cb, h1, rfl, hl, hb⟩ | ⟨h1, _⟩)
  · rw [h] at h1; cases h1; exact ⟨bo, lb, cb, rfl, hl, hb⟩
  · rw [h] at h1; cases h1
theorem all_nope (ao : Option Addr) (la ca : Nat) (xs : List Int) (w : World) (ha : Tx w ao la ca xs) (sa : la ≤ 900000000) (h : allB xs = none) :
    Calls Try.prog 15 #[.slice ao la ca] w fun e w' => e = .returned (.tuple #[.slice none 0 0, .int .i64 12]) ∧ Below w.heap.size w w' := by
  refine (all_any [] ao la ca xs w ha sa (by simp)).mono ?_
  rintro e w' (⟨es', bo, lb, cb, h1, _⟩ | ⟨_, h2, h3⟩)
  · rw [h] at h1; cases h1
  · exact ⟨h2, h3⟩

theorem lx_ent_two (V : World) {k v k2 v2 : Value} {e e2 : Ent} (hk : BytesAt V [] k e.k) (hv : BytesAt V [] v e.v) (hk2 : BytesAt V [] k2 e2.k) (hv2 : BytesAt V [] v2 e2.v) (G G2 : Bool) (hG : G = e.g) (hG2 : G2 = e2.g) :
    Lx 3 RE (V.alloc (.cells #[k, v, .bool G, k2, v2, .bool G2] 25)) (some ⟨V.heap.size, 0, none⟩) 2 2 [e, e2] ∧ Below V.heap.size V (V.alloc (.cells #[k, v, .bool G, k2, v2, .bool G2] 25)) := by
  have hb : Below V.heap.size V (V.alloc (.cells #[k, v, .bool G, k2, v2, .bool G2] 25)) := (Below.refl _ _).alloc (Nat.le_refl _) _
  refine ⟨⟨rfl, Nat.le_refl _, by unfold maxLen; omega, fun h => (by cases h), fun ad ha j x hx => ?_⟩, hb⟩
  cases ha
  have hj : j < 2 := by have := (List.getElem?_eq_some_iff.1 hx).1; simpa using this
  have h3 : j = 0 ∨ j = 1 := by omega
  rcases h3 with rfl | rfl
  · simp at hx
    subst hx
    refine ⟨[k, v, .bool G], fun i y hy => ?_, k, v, by rw [hG], hk.off (.of_below hb) (by simp), hv.off (.of_below hb) (by simp)⟩
    have hi : i < 3 := by have := (List.getElem?_eq_some_iff.1 hy).1; simpa using this
    rw [Addr.add_lit, Nat.zero_add]
    refine cells_at V _ 25 _ y ?_
    have h3 : i = 0 ∨ i = 1 ∨ i = 2 := by omega
    rcases h3 with rfl | rfl | rfl <;> simpa using hy
  · simp at hx
    subst hx
    refine ⟨[k2, v2, .bool G2], fun i y hy => ?_, k2, v2, by rw [hG2], hk2.off (.of_below hb) (by simp), hv2.off (.of_below hb) (by simp)⟩
    have hi : i < 3 := by have := (List.getElem?_eq_some_iff.1 hy).1; simpa using this
    rw [Addr.add_lit, Nat.zero_add]
    refine cells_at V _ 25 _ y ?_
    have h3 : i = 0 ∨ i = 1 ∨ i = 2 := by omega
    rcases h3 with rfl | rfl | rfl <;> simpa using hy

def knE : List Ent := [⟨[97, 98], [], false⟩, ⟨[97, 99], [], true⟩]
def knB : List Int := [0, 2, 97, 98, 1, 0, 0, 1, 1, 99, 0, 0, 0, 1]
theorem kn_may : mayB 255 knE = true := by decide
theorem kn_fit : fitB 0 0 [] knE = true := by decide
theorem kn_block : blockL knE = knB := by decide
theorem kn_str : strOfNums knB = { data := #[0, 2, 97, 98, 1, 0, 0, 1, 1, 99, 0, 0, 0, 1] } := by decide
theorem kn_len : ∀ e ∈ knE, e.k.length ≤ 1000000000000 := by
  intro e he
  simp [knE] at he
  rcases he with rfl | rfl <;> simp

set_option maxHeartbeats 2000000 in
theorem known_any (w : World) : Calls Try.prog 10 #[] w fun e w' => e = .returned (.bool true) ∧ Below w.heap.size w w' := by
  have hr1 : ∀ x ∈ ([97, 98] : List Int), 0 ≤ x ∧ x ≤ 255 := by decide
  have hr2 : ∀ x ∈ ([97, 99] : List Int), 0 ≤ x ∧ x ≤ 255 := by decide
  have hno : mayB 255 [] = false := rfl
  go_enter Try.func10, Try.ntmps10
  go_wp2_with (first
    | (with_reducible show wpList _ _ _ (⟨some 9, _, _, _, _, _⟩ :: _) _ _; refine wpList_convs rfl _ rfl w w.heap.size #[.int .u8 97, .int .u8 98] [97, 98] 2 rfl rfl rfl rfl rfl (by omega) hr1 ?_; intro W1 t1 b1)
    | (with_reducible show wpList _ _ _ (⟨some 12, _, _, _, _, _⟩ :: _) _ _; refine wpList_convs rfl _ rfl W1 W1.heap.size #[.int .u8 97, .int .u8 99] [97, 99] 2 rfl rfl rfl rfl rfl (by omega) hr2 ?_; intro W2 t2 b2; have hlx := lx_ent_two W2 (e := ⟨[97, 98], [], false⟩) (e2 := ⟨[97, 99], [], true⟩) ((t1.later b2).at [] (by simp)) ((Tx.nil W2).at [] (by simp)) (t2.at [] (by simp)) ((Tx.nil W2).at [] (by simp)) false true rfl rfl; have hbu := build_yes _ _ _ knE _ hlx.1 kn_len kn_may kn_fit knB kn_block)
    | (go_at_call 14; with_reducible refine hbu.mono ?_; rintro e W3 ⟨bo, lb, cb, rfl, t3, b3⟩; have hal := all_nope none 0 0 [] W3 (Tx.nil W3) (by omega) rfl)
    | (go_at_call 15; with_reducible refine hal.mono ?_; rintro e W4 ⟨rfl, b4⟩; have hba := build_arg none 0 0 [] W4 (Lx.nil _ _ _) (by simp) hno; have s3 := (t3.later b4).string; rw [kn_str] at s3)
    | (go_at_call 14; with_reducible refine hba.mono ?_; rintro e W5 ⟨rfl, b5⟩; have s5 := ((t3.later b4).later b5).string; rw [kn_str] at s5))
  go_ret
  have B2 := b1.trans (b2.mono b1.size)
  have B3 := B2.trans ((hlx.2.trans (b3.mono hlx.2.size)).mono B2.size)
  have B4 := B3.trans (b4.mono B3.size)
  exact ⟨rfl, B4.trans (b5.mono B4.size)⟩

end Go.Proofs.Ytdlkakkoaelemaa
