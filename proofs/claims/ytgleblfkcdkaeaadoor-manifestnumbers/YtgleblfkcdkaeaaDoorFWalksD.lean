/- The walks of bytes.Clone, of a record's head, slices.Grow of nothing, slices.Concat of three, frame.Put. -/
import Derived.Test.YtgleblfkcdkaeaaDoorFMem
import Derived.Test.YtgleblfkcdkaeaaDoorFWalksA
import Derived.Lib.SmallJoins
import Derived.Lib.AppendZerosOnto
import Derived.Lib.SliceRun
import Derived.Laws.Externs
namespace Go.Proofs.YtgleblfkcdkaeaaDoor
open Go.RowKit

theorem bclone_any (ao : Option Addr) (la ca : Nat) (xs : List Int) (w : World) (ha : Tx w ao la ca xs) (hl : la ≤ 1000000000) :
    Calls Tryd.prog 60 #[.slice ao la ca] w fun e w' => ∃ bo cb, e = .returned (.slice bo la cb) ∧ Tx w' bo la cb xs ∧ (∀ ad, bo = some ad → w.heap.size ≤ ad.block) ∧ Below w.heap.size w w' := by
  cases ao with
  | none =>
    obtain ⟨rfl, rfl⟩ := ha.bare rfl
    have hx : xs = [] := List.eq_nil_of_length_eq_zero ha.len_eq
    subst hx
    have hq : ∀ w, (binOp .eql 27 (.slice none 0 0) (.slice none 0 0)).run Tryd.prog w = .ok (.bool true) w := fun _ => by kernel_rfl
    go_enter Tryd.func60, Tryd.ntmps60
    go_wp2
    go_ret
    exact ⟨none, 0, rfl, Tx.nil _, fun _ h => (by cases h), Below.refl _ _⟩
  | some a =>
    have hq := fun wx => Lib.run_eql_slice_nil (P := Tryd.prog) wx 27 5 (some a) la ca 0 0 Tryd.underlying27
    go_enter Tryd.func60, Tryd.ntmps60
    have hi : (some a).isNone = false := rfl
    rw [hi] at hq
    go_wp2_with (with_reducible show wpList _ _ _ (⟨some 7, _, _, _, _, _⟩ :: _) _ _; refine wpList_append_bytes _ rfl _ _ rfl w.heap.size (.slice (some ⟨w.heap.size, 0, none⟩) 0 0) 0 [] rfl (own_empty w) (by simp) (some a) la ca xs rfl (ha.alloc _) (by omega) (by simp) ?_; intro a5 l5 c5 w5 hl5 hown5 htx5 b5)
    go_ret
    rw [Nat.zero_add] at hl5
    subst hl5
    exact ⟨a5, c5, rfl, htx5, fun ad h => (own_lt hown5 ad.block (by subst h; simp [own, Value.ownBlock])).2, ((Below.refl _ _).alloc (Nat.le_refl _) _).trans b5⟩

theorem xor_mask (n : Nat) (h : n ≤ 16777215) : n ^^^ 16777215 = 16777215 - n := by
  have h1 : (BitVec.ofNat 24 n ^^^ BitVec.allOnes 24).toNat = n ^^^ 16777215 := by
    rw [BitVec.toNat_xor, BitVec.toNat_ofNat, BitVec.toNat_allOnes, Nat.mod_eq_of_lt (by omega)]
  rw [← h1, BitVec.xor_allOnes, BitVec.toNat_not, BitVec.toNat_ofNat, Nat.mod_eq_of_lt (by omega)]

theorem headN_bits (n : Nat) (h : n ≤ 16777215) : bits .or .u64 ((n : Int) * 16777216) (bits .xor .u64 (n : Int) 16777215) = headN n := by
  have e := bits_xor_u64_nat n 16777215 (by omega) (by omega)
  rw [xor_mask n h] at e
  have e' : bits .xor .u64 (n : Int) 16777215 = 16777215 - (n : Int) := by
    rw [show (16777215 : Int) = ((16777215 : Nat) : Int) by rfl, e]; omega
  rw [e', headN]
  exact bits_join .u64 64 (by decide) (fun n h0 h1 => by rw [IntKind.wrap_u64]; omega) 24 _ _ (by omega) (by omega) (by omega) (by omega) (by omega) (by omega)

theorem head_any (N : Int) (n : Nat) (hN : N = (n : Int)) (h : n ≤ 1048576) (w : World) : Calls Tryd.prog 52 #[.int .i64 N] w fun e w' => e = .returned (.int .u64 (headN n)) ∧ w = w' := by
  subst hN
  have hb := headN_bits n (by omega)
  generalize headN n = H at hb ⊢
  go_enter Tryd.func52, Tryd.ntmps52
  go_wp2
  go_ret
  exact ⟨rfl, rfl⟩

theorem own_zeros {w : World} {Z : Array Value} {cap : Nat} (hs : Z.size = cap) (hm : cap ≤ maxLen) : (w.drew.alloc (.cells Z 5)).ownsRow w.heap.size 5 1 (.slice (some ⟨w.heap.size, 0, none⟩) 0 cap) 0 (([] : List Int).map (Value.int .u8)) :=
  ⟨rfl, .inr ⟨w.heap.size, cap, Z, rfl, Nat.le_refl _, heap_alloc_new w.drew _, Nat.zero_le _, hm, by omega, by simp⟩⟩

set_option maxRecDepth 100000 in
theorem grow_nil (N : Int) (n : Nat) (hN : N = (n : Int)) (h : n ≤ 1000000000) (w : World) : Calls Tryd.prog 63 #[.slice none 0 0, .int .i64 N] w fun e w' => ∃ ao cap, e = .returned (.slice ao 0 cap) ∧ w'.ownsRow w.heap.size 5 1 (.slice ao 0 cap) 0 (([] : List Int).map (Value.int .u8)) ∧ Below w.heap.size w w' := by
  subst hN
  by_cases h0 : n = 0
  · subst h0
    go_enter Tryd.func63, Tryd.ntmps63
    go_wp2
    go_ret
    exact ⟨none, 0, rfl, ⟨rfl, .inl ⟨rfl, rfl⟩⟩, Below.refl _ _⟩
  · have hpos : (0 : Int) < n := by omega
    obtain ⟨i0, hi, hz0, hz1, hz2⟩ := info_parts Tryd.info5
    have happ := Lib.run_append_nil_zeros (P := Tryd.prog) w 27 3 27 5 i0 (.int .u8 0) .i64 .i64 Tryd.underlying27 Tryd.underlying3 hi hz0 n (by omega) (by omega) (by omega) (by rw [hz2]; omega)
    generalize hcap : grownCap w n 0 5 = cap2 at happ
    have hcapge : n ≤ cap2 := by rw [← hcap]; exact grownCap_ge w _ 0 5
    have hcaple : cap2 ≤ maxLen := by rw [← hcap]; exact grownCap_le_maxLen w _ 0 5 (by unfold maxLen; omega)
    generalize hZ : (Builtin.zeroCells (Value.int .u8 0).cells n ++ Builtin.zeroCells (Value.int .u8 0).cells (cap2 - n)) = Z at happ
    have hZs : Z.size = cap2 := by rw [← hZ]; simp [size_zeroCells, Value.cells]; omega
    clear hcap hZ
    go_enter Tryd.func63, Tryd.ntmps63
    go_wp2_with (at_builtin; refine Lib.wpList_append_run _ rfl _ _ _ _ rfl _ _ rfl rfl _ _ happ ?_)
    go_ret
    exact ⟨_, cap2, rfl, own_zeros hZs hcaple, (Below.refl _ _).drew.alloc (Nat.le_refl _) _⟩

theorem Lx.headB {w : World} {ao : Option Addr} {len cap : Nat} {l : List (List Int)} (h : Lx 1 RB w ao len cap l) (h0 : 0 < len) :
    ∃ b off, ao = some ⟨b, off, none⟩ ∧ ∀ j xs, l[j]? = some xs → ∃ eo el ec, w.cell? ⟨b, off + j, none⟩ = some (.slice eo el ec) ∧ Tx w eo el ec xs := by
  obtain ⟨b, off, rfl, hc⟩ := h.head RB.plain (by omega) h0
  refine ⟨b, off, rfl, fun j xs hx => ?_⟩
  obtain ⟨u, h1, v, rfl, eo, el, ec, rfl, t, _⟩ := hc j xs hx
  exact ⟨eo, el, ec, by simpa using h1 0 _ rfl, t⟩

theorem flat_take_succ (l : List (List Int)) (k : Nat) (xs : List Int) (h : l[k]? = some xs) : (l.take (k + 1)).flatten = (l.take k).flatten ++ xs := by
  obtain ⟨hk, rfl⟩ := List.getElem?_eq_some_iff.1 h
  rw [List.take_succ_eq_append_getElem hk, List.flatten_append, List.flatten_cons, List.flatten_nil, List.append_nil]
theorem flat_take_le (l : List (List Int)) (k : Nat) : (l.take k).flatten.length ≤ l.flatten.length := by
  have : l.flatten = (l.take k).flatten ++ (l.drop k).flatten := by rw [← List.flatten_append, List.take_append_drop]
  rw [this]; simp

set_option maxHeartbeats 1000000 in
theorem concat_any (ao : Option Addr) (len cap : Nat) (l : List (List Int)) (w : World) (h : Lx 1 RB w ao len cap l) (hf : l.flatten.length ≤ 900000000) (hlen : len ≤ 1000000) :
    Calls Tryd.prog 51 #[.slice ao len cap] w fun e w' => ∃ bo lb cb, e = .returned (.slice bo lb cb) ∧ Tx w' bo lb cb l.flatten ∧ Below w.heap.size w w' := by
  have hl := h.len_eq
  by_cases h0 : 0 < len
  · obtain ⟨b, off, rfl, hc⟩ := h.headB h0
    go_enter Tryd.func51, Tryd.ntmps51
    go_wp2
    go_loop [3, 5, 11] (fun s _ i => ∃ k m : Nat, k ≤ len ∧ i = .int .i64 k ∧ s = .int .i64 m ∧ m ≤ 900000000 ∧ Hid (m = (l.take k).flatten.length)) (fun _ _ i => len - (intOf i).toNat)
    case atStart => exact ⟨0, 0, by omega, rfl, rfl, by omega, by show _ = _; simp⟩
    case round =>
      obtain ⟨k, m, hk, rfl, rfl, hm9, hm⟩ := hrel
      by_cases hk2 : k < len
      · obtain ⟨eo, el, ec, c1, t1⟩ := hc k (l[k]'(by omega)) (by simp)
        have hel := t1.len_eq
        have hs := flat_take_succ l k (l[k]'(by omega)) (by simp)
        have hle := flat_take_le l (k + 1)
        rw [hs, List.length_append, ← hm.out, hel] at hle
        have hs' : Hid (m + el = (l.take (k + 1)).flatten.length) := by show _ = _; rw [hs, List.length_append, ← hm.out, hel]
        clear hs hel
        have hme : m + el ≤ 900000000 := by omega
        go_wp2
        go_round
        case rel => exact ⟨k + 1, m + el, by omega, by go_num, by go_num, hme, hs'⟩
        case measure => simp [intOf]; omega
      · have hkl : k = len := by omega
        go_wp2_with (go_at_call 63; with_reducible refine (grow_nil m m rfl (by omega) w).mono ?_; rintro e w1 ⟨ao1, cap1, rfl, hown1, hb1⟩)
        go_loopw [6, 8, 27] (fun s _ i wr => ∃ (k q : Nat) (ao2 : Option Addr) (cap2 : Nat), k ≤ len ∧ i = .int .i64 k ∧ s = .slice ao2 q cap2 ∧ q ≤ 900000000 ∧ Hid (q = (l.take k).flatten.length) ∧ wr.ownsRow w.heap.size 5 1 (.slice ao2 q cap2) q ((l.take k).flatten.map (Value.int .u8)) ∧ Hid (Bytes (l.take k).flatten) ∧ Below w.heap.size w wr) (fun _ _ i _ => len - (intOf i).toNat)
        case atStart => exact ⟨0, 0, ao1, cap1, by omega, rfl, rfl, by omega, by show _ = _; simp, by simpa using hown1, by show Bytes _; simp [Bytes], hb1⟩
        case round =>
          obtain ⟨k, q, ao2, cap2, hk, rfl, rfl, hq9, hq, hown, hby, hb⟩ := hrel
          by_cases hk2 : k < len
          · obtain ⟨eo, el, ec, c1, t1⟩ := hc k (l[k]'(by omega)) (by simp)
            have c1 := cell_later hb c1
            have t1 := t1.later hb
            have hel := t1.len_eq
            have hs := flat_take_succ l k (l[k]'(by omega)) (by simp)
            have hle := flat_take_le l (k + 1)
            rw [hs, List.length_append, ← hq.out, hel] at hle
            have hs' : Hid (q + el = (l.take (k + 1)).flatten.length) := by show _ = _; rw [hs, List.length_append, ← hq.out, hel]
            have hsH : Hid ((l.take (k + 1)).flatten = (l.take k).flatten ++ l[k]'(by omega)) := hs
            clear hs hel
            have hme : q + el ≤ 900000000 := by omega
            have hbs := hb.size
            have hbr : ∀ n ∈ (l.take k).flatten, 0 ≤ n ∧ n ≤ 255 := hby.out
            generalize l[k]'(by omega) = xs at t1 hsH
            go_wp2_with (with_reducible show wpList _ _ _ (⟨some 33, _, _, _, _, _⟩ :: _) _ _; refine wpList_append_bytes _ rfl _ _ rfl w.heap.size (.slice ao2 q cap2) q (l.take k).flatten rfl hown hbr eo el ec xs rfl t1 (by omega) hbs ?_; intro a5 l5 c5 w5 hl5 hown5 htx5 b5; subst hl5)
            go_roundw
            case rel =>
              refine ⟨k + 1, q + el, a5, c5, by omega, by go_num, rfl, by omega, hs', by rw [hsH.out]; exact hown5, by show Bytes _; rw [hsH.out]; exact Bytes.app hby.out t1.rng, hb.trans b5⟩
            case measure => simp [intOf]; omega
          · have hkl2 : k = len := by omega
            go_wp2
            go_ret
            obtain ⟨ao3, cap3, e3, htx⟩ := Tx.own hown hby.out
            simp only [Value.slice.injEq, true_and] at e3
            obtain ⟨rfl, rfl⟩ := e3
            refine ⟨_, _, _, rfl, ?_, hb⟩
            rw [hkl2, List.take_of_length_le (by omega)] at htx
            exact htx
  · obtain rfl : len = 0 := by omega
    have hl0 : l = [] := List.eq_nil_of_length_eq_zero hl
    subst hl0
    go_enter Tryd.func51, Tryd.ntmps51
    go_wp2
    refine wp_loop_rounds 1 ?_
    rw [rounds_succ]
    go_wp2_with (go_at_call 63; with_reducible refine (grow_nil 0 0 rfl (by omega) w).mono ?_; rintro e w1 ⟨ao1, cap1, rfl, hown1, hb1⟩)
    refine wp_loop_rounds 1 ?_
    rw [rounds_succ]
    go_wp2
    go_ret
    obtain ⟨ao3, cap3, e3, htx⟩ := Tx.own hown1 (by simp)
    simp only [Value.slice.injEq, true_and] at e3
    obtain ⟨rfl, rfl⟩ := e3
    exact ⟨_, _, _, rfl, htx, hb1⟩

/-- Three texts in a row of their own. -/
theorem lx_three (w : World) {A B C : Value} {x y z : List Int} (ha : BytesAt w [] A x) (hb : BytesAt w [] B y) (hc : BytesAt w [] C z) :
    Lx 1 RB (w.alloc (.cells #[A, B, C] 27)) (some ⟨w.heap.size, 0, none⟩) 3 3 [x, y, z] := by
  have hbel : Below w.heap.size w (w.alloc (.cells #[A, B, C] 27)) := (Below.refl _ _).alloc (Nat.le_refl _) _
  have hcell : ∀ j v, [A, B, C][j]? = some v → (w.alloc (.cells #[A, B, C] 27)).cell? ⟨w.heap.size, j, none⟩ = some v := fun j v hv => by
    rw [cell_of_row _ w.heap.size j #[A, B, C] 27 (0, 0) (heap_alloc_new w _)]
    simpa using hv
  refine ⟨rfl, Nat.le_refl _, by unfold maxLen; omega, fun h => (by cases h), fun ad h j e he => ?_⟩
  cases h
  have hR : ∀ (v : Value) (xs : List Int), [A, B, C][j]? = some v → BytesAt w [] v xs → e = xs → ∃ u : List Value, (∀ (i : Nat) (x : Value), u[i]? = some x → (w.alloc (.cells #[A, B, C] 27)).cell? ((⟨w.heap.size, 0, none⟩ : Addr).add (j * 1 + i)) = some x) ∧ RB (w.alloc (.cells #[A, B, C] 27)) [] u e := by
    intro v xs hv hat he
    subst he
    refine ⟨[v], fun i x hx => ?_, v, rfl, hat.off (.of_below hbel) (by simp)⟩
    have hi : i = 0 := by have := (List.getElem?_eq_some_iff.1 hx).1; simp at this; omega
    subst hi
    simp at hx
    subst hx
    rw [Addr.add_lit, Nat.zero_add, Nat.mul_one, Nat.add_zero]
    exact hcell j v hv
  match j, he with
  | 0, he => exact hR A x rfl ha (by simpa using he.symm)
  | 1, he => exact hR B y rfl hb (by simpa using he.symm)
  | 2, he => exact hR C z rfl hc (by simpa using he.symm)
  | j + 3, he => simp at he

theorem fput_any (ao bo : Option Addr) (la ca lb cb : Nat) (xs ys : List Int) (w : World) (ha : Tx w ao la ca xs) (hb : Tx w bo lb cb ys) (sa : la ≤ 800000000) (sb : lb ≤ 1048576) :
    Calls Tryd.prog 34 #[.slice ao la ca, .slice bo lb cb] w fun e w' => ∃ co lc cc, e = .returned (.tuple #[.slice co lc cc, .int .i64 0]) ∧ Tx w' co lc cc (xs ++ recL ys) ∧ Below w.heap.size w w' := by
  have e1 := ha.len_eq
  have e2 := hb.len_eq
  have hH := headL_low lb (by omega)
  have hfl : Hid ([xs, low 6 (headN lb), ys].flatten = xs ++ recL ys) := by show _ = _; rw [hH, recL, e2]; simp
  have hfl2 : [xs, low 6 (headN lb), ys].flatten.length ≤ 900000000 := by rw [hfl.out]; simp [length_recL]; omega
  have hn1 : 0 ≤ headN lb := by unfold headN; omega
  have hn2 : headN lb < 18446744073709551616 := by unfold headN; omega
  have hput := fun (V : World) => put_any none 0 0 (headN lb) 6 [] V (Tx.nil V) (by omega) hn1 hn2 (by omega) (by omega)
  have hhead := fun (V : World) => head_any (lb : Int) lb rfl sb V
  generalize headN lb = H at hH hfl hfl2 hn1 hn2 hput hhead
  have hc6 : ([] : List Int) ++ low (clampN 6) H = low 6 H := rfl
  simp only [hc6] at hput
  go_enter Tryd.func34, Tryd.ntmps34
  go_wp2_with (first
    | (go_at_call 52; with_reducible refine (hhead w).mono ?_; rintro e w1 ⟨rfl, rfl⟩)
    | (go_at_call 48; with_reducible refine (hput w).mono ?_; rintro e w1 ⟨po, lp, cp, rfl, tp, b1⟩; have hl3 := lx_three w1 ((ha.later b1).at [] (by simp)) (tp.at [] (by simp)) ((hb.later b1).at [] (by simp)))
    | (go_at_call 51; with_reducible refine (concat_any _ _ _ _ _ hl3 hfl2 (by omega)).mono ?_; rintro e w2 ⟨co, lc, cc, rfl, tc, b2⟩))
  go_ret2
  refine ⟨co, lc, cc, rfl, by rw [← hfl.out]; exact tc, (b1.alloc b1.size _).trans (b2.mono (by have := b1.size; simp; omega))⟩

theorem fput_long (ao bo : Option Addr) (la ca lb cb : Nat) (w : World) (sb : 1048576 < lb) :
    Calls Tryd.prog 34 #[.slice ao la ca, .slice bo lb cb] w fun e w' => e = .returned (.tuple #[.slice none 0 0, .int .i64 3]) ∧ w = w' := by
  go_enter Tryd.func34, Tryd.ntmps34
  go_wp2
  go_ret2
  exact ⟨rfl, rfl⟩

end Go.Proofs.YtgleblfkcdkaeaaDoor
