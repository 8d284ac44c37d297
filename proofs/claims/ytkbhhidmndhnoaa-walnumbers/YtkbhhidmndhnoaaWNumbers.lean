/- The walk of WalNumbers. -/
import Derived.Test.YtkbhhidmndhnoaaWGood
namespace Go.Proofs.Ytkbhhidmndhnoaa
open Go.RowKit Go.Sort

/-- A text of one sign, as bytes. -/
theorem wpList_conv1 {ops : Array Oper} {rest : List Oper} {o : Oper} {a : Act} {w : World} {Q : Exit → Act → World → Prop}
    (hg : o.guard = none) (x : Operand) (hop : o.op = .convert 22 22 x) (V : World) (b : Nat) (n : Int) (hb : b = V.heap.size) (hx : a.eval x = .slice (some ⟨b, 0, none⟩) 1 1) (hw : w = V.alloc (.cells #[.int .u8 n] 5)) (h1 : 0 ≤ n) (h2 : n ≤ 255)
    (hK : ∀ W, Tx W (some ⟨b, 0, none⟩) 1 1 [n] → Below V.heap.size V W → wpList Try.prog ops Q rest (a.put o.dst (.slice (some ⟨b, 0, none⟩) 1 1)) W) :
    wpList Try.prog ops Q (o :: rest) a w := by
  subst hb hw
  refine wpList_plain hg fun K hKK => ?_
  have hrun := Lib.run_convert_bytes_const (P := Try.prog) V 22 5 #[.int .u8 n] 1 1 Try.underlying22 Try.underlying5
  unfold Oper.wp
  simp [execOp, hop, hx, hrun, Result.andThen]
  exact hKK _ _ (hK _ (tx_mark V #[.int .u8 n] (1, 2) [n] 1 rfl rfl (by omega) (by simp; omega)) ((Below.refl _ _).alloc (Nat.le_refl _) _))

theorem cells_at (V : World) (cs : Array Value) (t : TypeId) (j : Nat) (x : Value) (h : cs[j]? = some x) : (V.alloc (.cells cs t)).cell? ⟨V.heap.size, j, none⟩ = some x := by
  rw [cell_of_row _ V.heap.size j cs t (0, 0) (heap_alloc_new V _)]; exact h

theorem lx_ent_two (V : World) {k v k2 v2 : Value} {e e2 : Ent} (hk : BytesAt V [] k e.k) (hv : BytesAt V [] v e.v) (hk2 : BytesAt V [] k2 e2.k) (hv2 : BytesAt V [] v2 e2.v) (G G2 : Bool) (hG : G = e.g) (hG2 : G2 = e2.g) : Lx 3 RE (V.alloc (.cells #[k, v, .bool G, k2, v2, .bool G2] 24)) (some ⟨V.heap.size, 0, none⟩) 2 2 [e, e2] := by
  have hb : Below V.heap.size V (V.alloc (.cells #[k, v, .bool G, k2, v2, .bool G2] 24)) := (Below.refl _ _).alloc (Nat.le_refl _) _
  refine ⟨rfl, Nat.le_refl _, by unfold maxLen; omega, fun h => (by cases h), fun ad ha j x hx => ?_⟩
  cases ha
  have hj : j < 2 := by have := (List.getElem?_eq_some_iff.1 hx).1; simpa using this
  have hj2 : j = 0 ∨ j = 1 := by omega
  rcases hj2 with rfl | rfl
  · simp at hx
    subst hx
    refine ⟨[k, v, .bool G], fun i y hy => ?_, k, v, by rw [hG], hk.off (.of_below hb) (by simp), hv.off (.of_below hb) (by simp)⟩
    have hi : i < 3 := by have := (List.getElem?_eq_some_iff.1 hy).1; simpa using this
    rw [Addr.add_lit, Nat.zero_mul, Nat.zero_add, Nat.zero_add]
    refine cells_at V _ 24 i y ?_
    have h3 : i = 0 ∨ i = 1 ∨ i = 2 := by omega
    rcases h3 with rfl | rfl | rfl <;> simpa using hy
  · simp at hx
    subst hx
    refine ⟨[k2, v2, .bool G2], fun i y hy => ?_, k2, v2, by rw [hG2], hk2.off (.of_below hb) (by simp), hv2.off (.of_below hb) (by simp)⟩
    have hi : i < 3 := by have := (List.getElem?_eq_some_iff.1 hy).1; simpa using this
    rw [Addr.add_lit, Nat.zero_add]
    refine cells_at V _ 24 _ y ?_
    have h3 : i = 0 ∨ i = 1 ∨ i = 2 := by omega
    rcases h3 with rfl | rfl | rfl <;> simpa using hy

theorem lx_three_lists (V : World) {ao bo co : Option Addr} {la ca lb cb lc cc : Nat} {x y z : List Ent} (ha : Lx 3 RE V ao la ca x) (hb : Lx 3 RE V bo lb cb y) (hc : Lx 3 RE V co lc cc z) :
    Lx 1 RL (V.alloc (.cells #[.slice ao la ca, .slice bo lb cb, .slice co lc cc] 25)) (some ⟨V.heap.size, 0, none⟩) 3 3 [x, y, z] := by
  have hbel : Below V.heap.size V (V.alloc (.cells #[.slice ao la ca, .slice bo lb cb, .slice co lc cc] 25)) := (Below.refl _ _).alloc (Nat.le_refl _) _
  refine ⟨rfl, Nat.le_refl _, by unfold maxLen; omega, fun h => (by cases h), fun ad h j e he => ?_⟩
  cases h
  have hj : j < 3 := by have := (List.getElem?_eq_some_iff.1 he).1; simpa using this
  have h3 : j = 0 ∨ j = 1 ∨ j = 2 := by omega
  rcases h3 with rfl | rfl | rfl
  · simp at he
    subst he
    refine ⟨[.slice ao la ca], fun i u hu => ?_, ao, la, ca, rfl, (ha.later RE.stable hbel).low [] (by simp)⟩
    have hi : i = 0 := by have := (List.getElem?_eq_some_iff.1 hu).1; simp at this; omega
    subst hi
    rw [Addr.add_lit]
    exact cells_at V _ 25 _ u (by simpa using hu)
  · simp at he
    subst he
    refine ⟨[.slice bo lb cb], fun i u hu => ?_, bo, lb, cb, rfl, (hb.later RE.stable hbel).low [] (by simp)⟩
    have hi : i = 0 := by have := (List.getElem?_eq_some_iff.1 hu).1; simp at this; omega
    subst hi
    rw [Addr.add_lit]
    exact cells_at V _ 25 _ u (by simpa using hu)
  · simp at he
    subst he
    refine ⟨[.slice co lc cc], fun i u hu => ?_, co, lc, cc, rfl, (hc.later RE.stable hbel).low [] (by simp)⟩
    have hi : i = 0 := by have := (List.getElem?_eq_some_iff.1 hu).1; simp at this; omega
    subst hi
    rw [Addr.add_lit]
    exact cells_at V _ 25 _ u (by simpa using hu)

def numL : List (List Ent) := [[⟨[97], [49], false⟩], [], [⟨[98], [], true⟩, ⟨[99], [], false⟩]]
theorem numL_fine : Fine numL := by
  intro es he
  simp [numL] at he
  rcases he with rfl | rfl | rfl
  · exact ⟨by decide, by decide⟩
  · exact ⟨by decide, by decide⟩
  · exact ⟨by decide, by decide⟩

abbrev nilN : ByteArray := ⟨#[]⟩
abbrev w1n : ByteArray := ⟨#[119, 49]⟩
abbrev longn : ByteArray := ⟨#[97, 32, 110, 97, 109, 101, 32, 116, 104, 97, 116, 32, 105, 115, 32, 102, 97, 114, 32, 108, 111, 110, 103, 101, 114, 32, 116, 104, 97, 110, 32, 105, 116, 32, 109, 97, 121, 32, 98, 101]⟩
def D0n : Dm := ⟨16777216, [], 0, false⟩
def D1n : Dm := ⟨16777216, [], 1, false⟩
def D2n : Dm := ⟨16777216, [], 0, true⟩
theorem open_bad (nm : ByteArray) (h : okName nm = false) : openM D0n nm = (D0n, [], 1) := by
  have hl : loadM D0n nm = (D0n, [], 1) := by
    have : get D0n.files nm = none := rfl
    simp only [loadM, this]
    simp [Dm.create, h]
  simp [openM, hl]
theorem open_armed : openM D1n w1n = (D2n, [], 13) := by
  have hs : D1n.spend = D2n := by simp [Dm.spend, D1n, D2n]
  have hc : D1n.create w1n = (D2n, 13) := by
    have hk : okName w1n = true := by decide
    unfold Dm.create
    rw [hk, hs]
    simp [D2n]
  have hl : loadM D1n w1n = (D2n, [], 13) := by
    have : get D1n.files w1n = none := rfl
    simp only [loadM, this, hc]
  simp [openM, hl]
theorem D0n_arm : D0n.arm 1 = D1n := rfl
theorem D0n_f : D0n.files.length ≤ 1000000 := by simp [D0n]
theorem D1n_f : D1n.files.length ≤ 1000000 := by simp [D1n]
theorem fresh_n (w : World) : Calls Try.prog 10 #[] w fun e w' => e = .returned (.pointer (some ⟨w.heap.size, 0, none⟩)) ∧ Dl w.heap.size w' w.heap.size D0n ∧ Below w.heap.size w w' := fresh_any w
theorem arm_n {B : Nat} {w : World} {pb : Nat} (h : Dl B w pb D0n) : Calls Try.prog 12 #[.pointer (some ⟨pb, 0, none⟩), .int .i64 1] w fun e w' => e = .returned (.tuple #[]) ∧ Dl B w' pb D1n ∧ Below B w w' := arm_l h 1 (by omega) (by omega)

theorem put_nine (V : World) : Calls Try.prog 13 #[.slice none 0 0, .slice (some ⟨V.heap.size, 0, none⟩) 1 1] (V.alloc (.cells #[.int .u8 9] 5)) fun e w' => ∃ bo lb cb, e = .returned (.slice bo lb cb) ∧ Tx w' bo lb cb ([] ++ recL [9]) ∧ Below V.heap.size V w' := by
  have b1 : Below V.heap.size V (V.alloc (.cells #[.int .u8 9] 5)) := (Below.refl _ _).alloc (Nat.le_refl _) _
  refine (rput_any none _ 0 0 1 1 [] [9] _ (Tx.nil _) (tx_mark V #[.int .u8 9] (0, 0) [9] 1 rfl rfl (by omega) (by simp)) (by omega) (by omega)).mono ?_
  rintro e w' ⟨co, lc, cc, rfl, t, b⟩
  exact ⟨co, lc, cc, rfl, t, b1.trans (b.mono b1.size)⟩
theorem below_tr {w W w1 : World} (h : Below w.heap.size w W) (h2 : Below W.heap.size W w1) : Below w.heap.size w w1 := h.trans (h2.mono h.size)
theorem nine_len : ([] ++ recL [9] : List Int).length = 7 := by decide

theorem num_list (V : World) {ao : Option Addr} {b3 b4 : Nat} (e3 : Lx 3 RE V ao 1 1 [⟨[97], [49], false⟩]) (t3 : Tx V (some ⟨b3, 0, none⟩) 1 1 [98]) (t4 : Tx V (some ⟨b4, 0, none⟩) 1 1 [99]) :
    Lx 1 RL ((V.alloc (.cells #[.slice (some ⟨b3, 0, none⟩) 1 1, .slice none 0 0, .bool true, .slice (some ⟨b4, 0, none⟩) 1 1, .slice none 0 0, .bool false] 24)).alloc (.cells #[.slice ao 1 1, .slice none 0 0, .slice (some ⟨V.heap.size, 0, none⟩) 2 2] 25)) (some ⟨V.heap.size + 1, 0, none⟩) 3 3 [[⟨[97], [49], false⟩], [], [⟨[98], [], true⟩, ⟨[99], [], false⟩]] ∧
      Below V.heap.size V ((V.alloc (.cells #[.slice (some ⟨b3, 0, none⟩) 1 1, .slice none 0 0, .bool true, .slice (some ⟨b4, 0, none⟩) 1 1, .slice none 0 0, .bool false] 24)).alloc (.cells #[.slice ao 1 1, .slice none 0 0, .slice (some ⟨V.heap.size, 0, none⟩) 2 2] 25)) := by
  have e6 := lx_ent_two V (e := ⟨[98], [], true⟩) (e2 := ⟨[99], [], false⟩) (t3.at [] (by simp)) ((Tx.nil V).at [] (by simp)) (t4.at [] (by simp)) ((Tx.nil V).at [] (by simp)) true false rfl rfl
  have b1 : Below V.heap.size V (V.alloc (.cells #[.slice (some ⟨b3, 0, none⟩) 1 1, .slice none 0 0, .bool true, .slice (some ⟨b4, 0, none⟩) 1 1, .slice none 0 0, .bool false] 24)) := (Below.refl _ _).alloc (Nat.le_refl _) _
  have h := lx_three_lists _ (e3.later RE.stable b1) (Lx.nil 3 RE _) e6
  rw [show (V.alloc (.cells #[.slice (some ⟨b3, 0, none⟩) 1 1, .slice none 0 0, .bool true, .slice (some ⟨b4, 0, none⟩) 1 1, .slice none 0 0, .bool false] 24)).heap.size = V.heap.size + 1 by simp] at h
  exact ⟨h, b1.alloc b1.size _⟩

set_option maxHeartbeats 8000000 in
set_option maxRecDepth 100000 in
theorem numbers_walk (w : World) : Calls Try.prog 3 #[] w fun e w' => e = .returned (.bool true) ∧ Below w.heap.size w w' := by
  have hf := numL_fine
  have hrl := rowB_length numL hf
  have hrl' : (rowB numL).length ≤ 3018 := by simpa [numL] using hrl
  clear hrl
  have hlaid := fun (V : World) (ao : Option Addr) (h : Lx 1 RL V ao 3 3 [[⟨[97], [49], false⟩], [], [⟨[98], [], true⟩, ⟨[99], [], false⟩]]) => laid_any ao 3 3 numL V h hf (by omega)
  generalize rowB numL = X at hrl' hlaid
  have ob1 := open_bad nilN (by decide)
  have ob2 := open_bad longn (by decide)
  have oa := open_armed
  have z1 : nilN.size ≤ 281474976710656 := by decide
  have z2 : longn.size ≤ 281474976710656 := by decide
  have z3 : w1n.size ≤ 281474976710656 := by decide
  have d0 := D0n_f
  have d1 := D1n_f
  go_enter Try.func3, Try.ntmps3
  go_wp2_with (first
    | (with_reducible show wpList _ _ _ (⟨some 18, _, _, _, _, _⟩ :: _) _ _; refine wpList_conv1 rfl _ rfl w w.heap.size 97 rfl rfl rfl (by omega) (by omega) ?_; intro W1 t1 b1)
    | (with_reducible show wpList _ _ _ (⟨some 20, _, _, _, _, _⟩ :: _) _ _; refine wpList_conv1 rfl _ rfl W1 W1.heap.size 49 rfl rfl rfl (by omega) (by omega) ?_; intro W2 t2 b2; have t1' := t1.later b2; have B2 := below_tr b1 b2; have e3 := lx_ent_one W2 (k := .slice (some ⟨w.heap.size, 0, none⟩) 1 1) (v := .slice (some ⟨W1.heap.size, 0, none⟩) 1 1) (e := ⟨[97], [49], false⟩) (t1'.at [] (by simp)) (t2.at [] (by simp)) false rfl; have b3 : Below W2.heap.size W2 (W2.alloc (.cells #[.slice (some ⟨w.heap.size, 0, none⟩) 1 1, .slice (some ⟨W1.heap.size, 0, none⟩) 1 1, .bool false] 24)) := (Below.refl _ _).alloc (Nat.le_refl _) _)
    | (with_reducible show wpList _ _ _ (⟨some 24, _, _, _, _, _⟩ :: _) _ _; refine wpList_conv1 rfl _ rfl (W2.alloc (.cells #[.slice (some ⟨w.heap.size, 0, none⟩) 1 1, .slice (some ⟨W1.heap.size, 0, none⟩) 1 1, .bool false] 24)) (W2.heap.size + 1) 98 (by simp) rfl rfl (by omega) (by omega) ?_; intro W3 t3 b4; have e3' := e3.later RE.stable b4; have B3 := below_tr (below_tr B2 b3) b4)
    | (with_reducible show wpList _ _ _ (⟨some 27, _, _, _, _, _⟩ :: _) _ _; refine wpList_conv1 rfl _ rfl W3 W3.heap.size 99 rfl rfl rfl (by omega) (by omega) ?_; intro W4 t4 b5; have e3'' := e3'.later RE.stable b5; have t3' := t3.later b5; have B4 := below_tr B3 b5; have hL := num_list W4 e3'' t3' t4))
  have hla := hlaid _ _ hL.1
  have B5 := below_tr B4 hL.2
  go_wp2_with (first
    | (go_at_call 8; with_reducible refine hla.mono ?_; rintro e w5 ⟨xo, xl, xc, rfl, t5, b6⟩; have B6 := below_tr B5 b6))
  have hxl := t5.len_eq
  have hxc := t5.le
  have hxt := t5.top
  unfold maxLen at hxt
  have hx9 : xl ≤ 3018 := by omega
  have fin : ∀ V, Below w.heap.size w V → True := fun _ _ => trivial
  go_loopw [3] (fun i wr => ∃ k : Nat, k ≤ xl + 1 ∧ i = .int .i64 k ∧ Below w5.heap.size w5 wr) (fun i _ => xl + 1 - (intOf i).toNat)
  case atStart => exact ⟨0, by omega, rfl, Below.refl _ _⟩
  case round =>
    obtain ⟨k, hk, rfl, hb⟩ := hrel
    by_cases hk2 : k ≤ xl
    · have hop := opens_any xo k xc (X.take k) wr ((t5.take k hk2).later hb) (by omega)
      have hkc : k ≤ xc := by omega
      go_wp2_with (go_at_call 9; with_reducible refine hop.mono ?_; rintro e w6 ⟨rfl, b7⟩)
      go_roundw
      case rel => exact ⟨k + 1, by omega, by go_num, below_tr hb b7⟩
      case measure => simp [intOf]; omega
    · have hno : ¬ (k : Int) ≤ (xl : Int) := by omega
      have B7 := below_tr B6 hb
      have hs1 := B7.size
      go_wp2_with (first
        | (go_at_call 10; with_reducible refine (fresh_n wr).mono ?_; rintro e w6 ⟨rfl, k6, b8⟩)
        | (go_at_call 11; with_reducible refine (open_no k6 nilN D0n [] 1 (by decide) ob1 d0 z1).mono ?_; rintro e w7 ⟨rfl, k7, b9⟩)
        | (go_at_call 11; with_reducible refine (open_nil w0 w7).mono ?_; rintro e v ⟨rfl, rfl⟩)
        | (go_at_call 11; with_reducible refine (open_no k7 longn D0n [] 1 (by decide) ob2 d0 z2).mono ?_; rintro e w8 ⟨rfl, k8, b10⟩)
        | (go_at_call 12; with_reducible refine (arm_n k8).mono ?_; rintro e w9 ⟨rfl, k9, b11⟩)
        | (go_at_call 11; with_reducible refine (open_no k9 w1n D2n [] 13 (by decide) oa d1 z3).mono ?_; rintro e w10 ⟨rfl, k10, b12⟩; have hp := put_nine w10)
        | (go_at_call 13; with_reducible refine hp.mono ?_; rintro e w11 ⟨po, pl, pc, rfl, t11, b13⟩; have hp9 := opens_any po pl pc _ w11 t11 (by have := t11.len_eq; have := nine_len; omega))
        | (go_at_call 9; with_reducible refine hp9.mono ?_; rintro e w12 ⟨rfl, b14⟩)
        | (go_at_call 14; with_reducible refine (known_any w12).mono ?_; rintro e w13 ⟨rfl, b15⟩))
      go_ret
      have B8 := ((((b8.trans b9).trans b10).trans b11).trans b12)
      exact ⟨rfl, below_tr B7 (below_tr (below_tr (below_tr B8 b13) b14) b15)⟩

end Go.Proofs.Ytkbhhidmndhnoaa
