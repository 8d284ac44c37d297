/- The walks of the document's Put and All, of row, few and all. -/
import Derived.Test.YtgleblfkcdkaeaaDoorFWalksH
namespace Go.Proofs.YtgleblfkcdkaeaaDoor
open Go.RowKit

theorem RefPut.gr {w wr : World} {k : Nat} {xs : List Int} {n : Int} {ao : Option Addr} {l cap : Nat} {zs : List Int} (h : RefPut w wr k xs n 0 ao l cap zs) : Gr w.heap.size wr ao l cap (xs ++ low k n) := by
  have := h.eq
  simp [low] at this
  rw [← this]
  exact ⟨h.own, h.rng, h.below.size⟩

theorem refput_own (ao : Option Addr) (la ca : Nat) (n size : Int) (xs : List Int) (w : World) (ha : Tx w ao la ca xs) (sa : la ≤ 900000000) (_n1 : 0 ≤ n) (_n2 : n < 18446744073709551616)
    (h1 : -9223372036854775808 ≤ size) (h2 : size ≤ 9223372036854775807) :
    Calls Tryd.prog 31 #[.slice ao la ca, .int .u64 n, .int .i64 size] w fun e w' => ∃ bo lb cb, e = .returned (.slice bo lb cb) ∧ Gr w.heap.size w' bo lb cb (xs ++ low (clampN size) n) ∧ Below w.heap.size w w' := by
  have e1 := ha.len_eq
  have hk := clampN_cast size
  have hk8 := clampN_le size
  generalize clampN size = k at hk hk8
  have hsz : (size < 0 ∧ k ≤ 0) ∨ (size = 0 ∧ k ≤ 0) ∨ (0 < size ∧ size ≤ 8 ∧ size = k) ∨ (8 < size ∧ 8 ≤ k) := by omega
  clear hk
  rcases hsz with ⟨s1, k0⟩ | ⟨rfl, k0⟩ | ⟨s1, s2, rfl⟩ | ⟨s1, k0⟩
  all_goals
    go_enter Tryd.func31, Tryd.ntmps31
    go_wp2_with (with_reducible show wpList _ _ _ (⟨some 11, _, _, _, _, _⟩ :: _) _ _; (refine wpList_append_bytes _ rfl _ _ rfl w.heap.size (.slice (some ⟨w.heap.size, 0, none⟩) 0 0) 0 [] rfl (own_empty w) (by simp) ao la ca xs rfl (ha.alloc _) (by omega) (by simp) ?_; intro ao1 l1 cap1 w1 hl1 hown1 htx1 hb1; clear hl1))
    go_loopw [7, 8] (fun o i wr => ∃ (q : Nat) (ao' : Option Addr) (l' cap' : Nat) (zs : List Int), i = .int .i64 ((q : Int) - 1) ∧ o = .slice ao' l' cap' ∧ RefPut w wr k xs n q ao' l' cap' zs) (fun _ i _ => (intOf i + 1).toNat)
    case atStart =>
      refine ⟨k, ao1, l1, cap1, xs, by go_num, rfl, ⟨Nat.le_refl _, hown1, ha.rng, rfl, ((Below.refl w.heap.size w).alloc (Nat.le_refl _) _).trans hb1⟩⟩
    case round =>
      obtain ⟨q, ao', l', cap', zs, rfl, rfl, hput⟩ := hrel
      have q2 := hput.hq
      by_cases hq : 0 < q
      · obtain ⟨p, rfl⟩ : ∃ p, q = p + 1 := ⟨q - 1, by omega⟩
        have ei : ((p + 1 : Nat) : Int) - 1 = p := by omega
        rw [ei]
        first
          | (exfalso; omega)
          | (have hbs := hput.below.size
             have hlen := hput.len
             have hle : l' + 1 ≤ 1000000000 := by omega
             clear hlen
             go_wp2_with (with_reducible show wpList _ _ _ (⟨some 29, _, _, _, _, _⟩ :: _) _ _; refine wpList_append_bytes _ rfl _ _ rfl w.heap.size (.slice ao' l' cap') l' zs rfl (hput.own.alloc _) hput.rng (some ⟨wr.heap.size, 0, none⟩) 1 1 [n / 2 ^ (8 * p) % 256] rfl (tx_one wr _ (byte_rng _)) hle (by simp; omega) ?_; intro ao2 l2 cap2 w2 hl2 hown2 htx2 hb2; clear hl2)
             go_roundw
             case rel => exact ⟨p, ao2, l2, cap2, _, by go_num, rfl, hput.step (pow_byte n p) hown2 ((hput.below.alloc hbs _).trans hb2)⟩
             case measure => simp [intOf])
      · obtain rfl : q = 0 := by omega
        go_wp2
        go_ret
        exact ⟨_, _, _, rfl, hput.gr, hput.below⟩

set_option maxHeartbeats 1000000 in
theorem rput_any (ao bo : Option Addr) (la ca lb cb : Nat) (xs ys : List Int) (w : World) (ha : Tx w ao la ca xs) (hb : Tx w bo lb cb ys) (sa : la ≤ 800000000) (sb : lb ≤ 1048576) :
    Calls Tryd.prog 24 #[.slice ao la ca, .slice bo lb cb] w fun e w' => ∃ co lc cc, e = .returned (.slice co lc cc) ∧ Tx w' co lc cc (xs ++ recL ys) ∧ Below w.heap.size w w' := by
  have e1 := ha.len_eq
  have e2 := hb.len_eq
  have hfl : Hid (xs ++ low 3 lb ++ low 3 (16777215 - lb) ++ ys = xs ++ recL ys) := by show _ = _; rw [recL, headL, e2]; simp
  have p1 := refput_own ao la ca lb 3 xs w ha (by omega) (by omega) (by omega) (by omega) (by omega)
  have hc3 : clampN 3 = 3 := rfl
  rw [hc3] at p1
  have hl1 : (low 3 (lb : Int)).length = 3 := length_low _ _
  have hl2 : (low 3 (16777215 - (lb : Int))).length = 3 := length_low _ _
  go_enter Tryd.func24, Tryd.ntmps24
  go_wp2_with (first
    | (go_at_call 31; with_reducible refine p1.mono ?_; rintro e w1 ⟨a1, n1, c1, rfl, g1, b1⟩; have t1 := g1.tx; have hn1 : n1 ≤ 800000003 := (by have := t1.len_eq; rw [List.length_append] at this; omega); have p2 := refput_own a1 n1 c1 (16777215 - lb) 3 _ w1 t1 (by omega) (by omega) (by omega) (by omega) (by omega); rw [hc3] at p2)
    | (go_at_call 31; with_reducible refine p2.mono ?_; rintro e w2 ⟨a2, n2, c2, rfl, g2, b2⟩; have hn2 : n2 ≤ 800000006 := (by have h1 := g2.len; have h0 := t1.len_eq; rw [List.length_append] at h1; omega); have t2 := (hb.later b1).later b2)
    | (with_reducible show wpList _ _ _ (⟨some 16, _, _, _, _, _⟩ :: _) _ _; refine wpList_gr rfl _ _ rfl w1.heap.size a2 n2 c2 _ rfl g2 bo lb cb ys rfl t2 (by omega) ?_; intro a5 l5 c5 w5 hl5 g5 m5))
  go_ret
  exact ⟨a5, l5, c5, rfl, by rw [← hfl.out]; exact g5.tx, (b1.trans (b2.mono b1.size)).trans ((m5.below g2).mono b1.size)⟩

theorem rowL_take_succ (l : List (List Int)) (k : Nat) (x : List Int) (h : l[k]? = some x) : rowL (l.take (k + 1)) = rowL (l.take k) ++ recL x := by
  obtain ⟨hk, rfl⟩ := List.getElem?_eq_some_iff.1 h
  rw [rowL, rowL, List.take_succ_eq_append_getElem hk, List.flatMap_append, List.flatMap_cons, List.flatMap_nil, List.append_nil]
theorem rowL_take_le (l : List (List Int)) (k : Nat) : (rowL (l.take k)).length ≤ (rowL l).length := by
  have : rowL l = rowL (l.take k) ++ rowL (l.drop k) := by rw [rowL, rowL, rowL, ← List.flatMap_append, List.take_append_drop]
  rw [this]; simp

def fewL (n m : Nat) (l : List (List Int)) : List (List Int) := (l.take n).map (List.take m)
theorem fewL_succ (l : List (List Int)) (j m : Nat) (x : List Int) (h : l[j]? = some x) : fewL (j + 1) m l = fewL j m l ++ [x.take m] := by
  obtain ⟨hk, rfl⟩ := List.getElem?_eq_some_iff.1 h
  rw [fewL, fewL, List.take_succ_eq_append_getElem hk, List.map_append]; rfl
theorem fewL_len (l : List (List Int)) (j m : Nat) (h : j ≤ l.length) : (fewL j m l).length = j := by simp [fewL]; omega
theorem rb_old {wr : World} {v : Value} {B : Nat} {es : List (List Int)} (hls : Ls 27 1 RB wr B v es) {ao : Option Addr} {la ca : Nat} {x : List Int} (t : Tx wr ao la ca x) (hf : ∀ ad, ao = some ad → 0 < la → ad.block < B) (o : Obj) : RB (wr.alloc o) (own v) [.slice ao la ca] x :=
  ⟨_, rfl, (t.alloc o).at _ (fun ad ha h0 hk => by have := hls.lt _ hk; have := hf ad ha h0; omega)⟩

end Go.Proofs.YtgleblfkcdkaeaaDoor
