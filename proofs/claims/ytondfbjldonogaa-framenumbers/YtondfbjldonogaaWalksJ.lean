/- The walks of the document's Put and All, of row, few and all. -/
import Derived.Test.YtondfbjldonogaaWalksH
namespace Go.Proofs.Ytondfbjldonogaa
open Go.RowKit

theorem RefPut.gr {w wr : World} {k : Nat} {xs : List Int} {n : Int} {ao : Option Addr} {l cap : Nat} {zs : List Int} (h : RefPut w wr k xs n 0 ao l cap zs) : Gr w.heap.size wr ao l cap (xs ++ low k n) := by
  have := h.eq
  simp [low] at this
  rw [← this]
  exact ⟨h.own, h.rng, h.below.size⟩

theorem refput_own (ao : Option Addr) (la ca : Nat) (n size : Int) (xs : List Int) (w : World) (ha : Tx w ao la ca xs) (sa : la ≤ 900000000) (_n1 : 0 ≤ n) (_n2 : n < 18446744073709551616)
    (h1 : -9223372036854775808 ≤ size) (h2 : size ≤ 9223372036854775807) :
    Calls Try.prog 28 #[.slice ao la ca, .int .u64 n, .int .i64 size] w fun e w' => ∃ bo lb cb, e = .returned (.slice bo lb cb) ∧ Gr w.heap.size w' bo lb cb (xs ++ low (clampN size) n) ∧ Below w.heap.size w w' := by
  have e1 := ha.len_eq
  have hk := clampN_cast size
  have hk8 := clampN_le size
  generalize clampN size = k at hk hk8
  have hsz : (size < 0 ∧ k ≤ 0) ∨ (size = 0 ∧ k ≤ 0) ∨ (0 < size ∧ size ≤ 8 ∧ size = k) ∨ (8 < size ∧ 8 ≤ k) := by omega
  clear hk
  rcases hsz with ⟨s1, k0⟩ | ⟨rfl, k0⟩ | ⟨s1, s2, rfl⟩ | ⟨s1, k0⟩
  all_goals
    go_enter Try.func28, Try.ntmps28
    go_wp2_with (with_reducible show wpList _ _ _ (⟨some 11, _, _, _, _, _⟩ :: _) _ _; (refine wpList_append_bytes _ rfl _ _ rfl w.heap.size (.slice (some ⟨w.heap.size, 0, none⟩) 0 0) 0 [] rfl (own_empty w) (by simp) ao la ca xs rfl (ha.alloc _) (by omega) (by simp) ?_; intro ao1 l1 cap1 w1 hl1 hown1 htx1 hb1; clear hl1))
    go_loopw [7, 8] (fun o i wr => ∃ (q : Nat) (ao' : Option Addr) (l' cap' : Nat) (zs : List Int), i = .int .i64 ((q : Int) - 1) ∧ o = .slice ao' l' cap' ∧ RefPut w wr k xs n q ao' l' cap' zs) (fun _ i _ => (intOf i + 1).toNat)
    case atStart =>
      refine ⟨k, ao1, l1, cap1, xs, by go_num, rfl, ⟨Nat.le_refl _, hown1, ha.rng, rfl, ((Below.refl w.heap.size w).alloc (Nat.le_refl _) _).trans hb1⟩⟩
    case round =>
      obtain ⟨q, ao', l', cap', zs, rfl, rfl, hput⟩ := hrel
      have q2 := hput.hq
      by_cases hq : 0 < q
      · obtain ⟨p, rfl⟩ : ∃ p, q = p + 1 := ⟨q - 1, by omega⟩
        have ei : ((p + 1 : Nat) : Int) - 1 = p := by omega
        rw [ei]
        first
          | (exfalso; omega)
          | (have hbs := hput.below.size
             have hlen := hput.len
             have hle : l' + 1 ≤ 1000000000 := by omega
             clear hlen
             go_wp2_with (with_reducible show wpList _ _ _ (⟨some 29, _, _, _, _, _⟩ :: _) _ _; refine wpList_append_bytes _ rfl _ _ rfl w.heap.size (.slice ao' l' cap') l' zs rfl (hput.own.alloc _) hput.rng (some ⟨wr.heap.size, 0, none⟩) 1 1 [n / 2 ^ (8 * p) % 256] rfl (tx_one wr _ (byte_rng _)) hle (by simp; omega) ?_; intro ao2 l2 cap2 w2 hl2 hown2 htx2 hb2; clear hl2)
             go_roundw
             case rel => exact ⟨p, ao2, l2, cap2, _, by go_num, rfl, hput.step (pow_byte n p) hown2 ((hput.below.alloc hbs _).trans hb2)⟩
             case measure => simp [intOf])
      · obtain rfl : q = 0 := by omega
        go_wp2
        go_ret
        exact ⟨_, _, _, rfl, hput.gr, hput.below⟩

set_option maxHeartbeats 1000000 in
theorem rput_any (ao bo : Option Addr) (la ca lb cb : Nat) (xs ys : List Int) (w : World) (ha : Tx w ao la ca xs) (hb : Tx w bo lb cb ys) (sa : la ≤ 800000000) (sb : lb ≤ 1048576) :
    Calls Try.prog 19 #[.slice ao la ca, .slice bo lb cb] w fun e w' => ∃ co lc cc, e = .returned (.slice co lc cc) ∧ Tx w' co lc cc (xs ++ recL ys) ∧ Below w.heap.size w w' := by
  have e1 := ha.len_eq
  have e2 := hb.len_eq
  have hfl : Hid (xs ++ low 3 lb ++ low 3 (16777215 - lb) ++ ys = xs ++ recL ys) := by show _ = _; rw [recL, headL, e2]; simp
  have p1 := refput_own ao la ca lb 3 xs w ha (by omega) (by omega) (by omega) (by omega) (by omega)
  have hc3 : clampN 3 = 3 := rfl
  rw [hc3] at p1
  have hl1 : (low 3 (lb : Int)).length = 3 := length_low _ _
  have hl2 : (low 3 (16777215 - (lb : Int))).length = 3 := length_low _ _
  go_enter Try.func19, Try.ntmps19
  go_wp2_with (first
    | (go_at_call 28; with_reducible refine p1.mono ?_; rintro e w1 ⟨a1, n1, c1, rfl, g1, b1⟩; have t1 := g1.tx; have hn1 : n1 ≤ 800000003 := (by have := t1.len_eq; rw [List.length_append] at this; omega); have p2 := refput_own a1 n1 c1 (16777215 - lb) 3 _ w1 t1 (by omega) (by omega) (by omega) (by omega) (by omega); rw [hc3] at p2)
    | (go_at_call 28; with_reducible refine p2.mono ?_; rintro e w2 ⟨a2, n2, c2, rfl, g2, b2⟩; have hn2 : n2 ≤ 800000006 := (by have h1 := g2.len; have h0 := t1.len_eq; rw [List.length_append] at h1; omega); have t2 := (hb.later b1).later b2)
    | (with_reducible show wpList _ _ _ (⟨some 16, _, _, _, _, _⟩ :: _) _ _; refine wpList_gr rfl _ _ rfl w1.heap.size a2 n2 c2 _ rfl g2 bo lb cb ys rfl t2 (by omega) ?_; intro a5 l5 c5 w5 hl5 g5 m5))
  go_ret
  exact ⟨a5, l5, c5, rfl, by rw [← hfl.out]; exact g5.tx, (b1.trans (b2.mono b1.size)).trans ((m5.below g2).mono b1.size)⟩

theorem rowL_take_succ (l : List (List Int)) (k : Nat) (x : List Int) (h : l[k]? = some x) : rowL (l.take (k + 1)) = rowL (l.take k) ++ recL x := by
  obtain ⟨hk, rfl⟩ := List.getElem?_eq_some_iff.1 h
  rw [rowL, rowL, List.take_succ_eq_append_getElem hk, List.flatMap_append, List.flatMap_cons, List.flatMap_nil, List.append_nil]
theorem rowL_take_le (l : List (List Int)) (k : Nat) : (rowL (l.take k)).length ≤ (rowL l).length := by
  have : rowL l = rowL (l.take k) ++ rowL (l.drop k) := by rw [rowL, rowL, rowL, ← List.flatMap_append, List.take_append_drop]
  rw [this]; simp

set_option maxHeartbeats 1000000 in
theorem row_any (ao : Option Addr) (la ca : Nat) (l : List (List Int)) (w : World) (h : Lx 1 RB w ao la ca l) (hs : ∀ x ∈ l, x.length ≤ 1048576) (hr : (rowL l).length ≤ 800000000) (sa : la ≤ 1000000) :
    Calls Try.prog 8 #[.slice ao la ca] w fun e w' => ∃ bo lb cb, e = .returned (.slice bo lb cb) ∧ Tx w' bo lb cb (rowL l) ∧ Below w.heap.size w w' := by
  have e1 := h.len_eq
  by_cases h0 : 0 < la
  · obtain ⟨b, off, rfl, hc⟩ := h.headB h0
    go_enter Try.func8, Try.ntmps8
    go_wp2
    go_loopw [3, 4] (fun o i wr => ∃ (k n : Nat) (bo : Option Addr) (cb : Nat), k ≤ la ∧ i = .int .i64 k ∧ o = .slice bo n cb ∧ Tx wr bo n cb (rowL (l.take k)) ∧ Below w.heap.size w wr) (fun _ i _ => la - (intOf i).toNat)
    case atStart => exact ⟨0, 0, none, 0, by omega, rfl, rfl, by simpa [rowL] using Tx.nil w, Below.refl _ _⟩
    case round =>
      obtain ⟨k, n, bo, cb, hk, rfl, rfl, t, hb⟩ := hrel
      by_cases hk2 : k < la
      · have hx : l[k]? = some (l[k]'(by omega)) := by simp
        obtain ⟨eo, el, ec, c0, te⟩ := hc k _ hx
        have hsx := hs _ (List.mem_of_getElem? hx)
        have hsu : Hid (rowL (l.take (k + 1)) = rowL (l.take k) ++ recL (l[k]'(by omega))) := rowL_take_succ l k _ hx
        have hle := rowL_take_le l k
        generalize l[k]'(by omega) = x at te hsx hsu
        have c0 := cell_later hb c0
        have te := te.later hb
        have hel := te.len_eq
        have hn := t.len_eq
        have hcall := rput_any bo eo n cb el ec _ x wr t te (by omega) (by omega)
        generalize rowL (l.take k) = R at t hsu hcall hle hn
        go_wp2_with (go_at_call 19; with_reducible refine hcall.mono ?_; rintro e w1 ⟨a1, n1, c1, rfl, t1, b1⟩)
        go_roundw
        case rel => exact ⟨k + 1, n1, a1, c1, by omega, by go_num, rfl, by rw [hsu.out]; exact t1, hb.trans (b1.mono hb.size)⟩
        case measure => simp [intOf]; omega
      · go_wp2
        go_ret
        rw [List.take_of_length_le (by omega)] at t
        exact ⟨bo, n, cb, rfl, t, hb⟩
  · obtain rfl : la = 0 := by omega
    have hl0 : l = [] := List.eq_nil_of_length_eq_zero e1
    subst hl0
    go_enter Try.func8, Try.ntmps8
    go_wp2
    refine wp_loop_rounds 1 ?_
    rw [rounds_succ]
    go_wp2
    go_ret
    exact ⟨none, 0, 0, rfl, Tx.nil w, Below.refl _ _⟩

def fewL (n m : Nat) (l : List (List Int)) : List (List Int) := (l.take n).map (List.take m)
theorem fewL_succ (l : List (List Int)) (j m : Nat) (x : List Int) (h : l[j]? = some x) : fewL (j + 1) m l = fewL j m l ++ [x.take m] := by
  obtain ⟨hk, rfl⟩ := List.getElem?_eq_some_iff.1 h
  rw [fewL, fewL, List.take_succ_eq_append_getElem hk, List.map_append]; rfl
theorem fewL_len (l : List (List Int)) (j m : Nat) (h : j ≤ l.length) : (fewL j m l).length = j := by simp [fewL]; omega
theorem rb_old {wr : World} {v : Value} {B : Nat} {es : List (List Int)} (hls : Ls 22 1 RB wr B v es) {ao : Option Addr} {la ca : Nat} {x : List Int} (t : Tx wr ao la ca x) (hf : ∀ ad, ao = some ad → 0 < la → ad.block < B) (o : Obj) : RB (wr.alloc o) (own v) [.slice ao la ca] x :=
  ⟨_, rfl, (t.alloc o).at _ (fun ad ha h0 hk => by have := hls.lt _ hk; have := hf ad ha h0; omega)⟩

set_option maxHeartbeats 2000000 in
theorem few_any (ao : Option Addr) (len cap : Nat) (l : List (List Int)) (N M : Int) (n m : Nat) (hN : N = (n : Int)) (hM : M = (m : Int)) (hn : n ≤ 1000) (hm : m ≤ 1000) (w : World) (h : Lx 1 RB w ao len cap l) :
    Calls Try.prog 15 #[.slice ao len cap, .int .i64 N, .int .i64 M] w fun e w' => ∃ bo lb cb, e = .returned (.slice bo lb cb) ∧ Lx 1 RB w' bo lb cb (fewL n m l) ∧ Below w.heap.size w w' := by
  subst hN hM
  have hl := h.len_eq
  have hle := h.le
  have htop := h.top
  unfold maxLen at htop
  go_enter Try.func15, Try.ntmps15
  go_wp2
  go_loopw [7, 8] (fun o i wr => ∃ (j q : Nat) (bo : Option Addr) (cb : Nat), j ≤ len ∧ j ≤ n ∧ i = .int .i64 j ∧ o = .slice bo q cb ∧ Hid (q = j) ∧ Ls 22 1 RB wr w.heap.size (.slice bo q cb) (fewL j m l) ∧ Below w.heap.size w wr) (fun _ i _ => len - (intOf i).toNat)
  case atStart => exact ⟨0, 0, none, 0, by omega, by omega, rfl, rfl, rfl, Ls.nil _ _ _ _ _, Below.refl _ _⟩
  case round =>
    obtain ⟨j, q, bo, cb, hjl, hjn, rfl, rfl, hq, hls, hb⟩ := hrel
    by_cases hj : j < len ∧ j < n
    · obtain ⟨b, off, rfl, hc⟩ := h.headB (by omega)
      have hx : l[j]? = some (l[j]'(by omega)) := by simp
      obtain ⟨eo, el, ec, c0, te⟩ := hc j _ hx
      have hsuc : Hid (fewL (j + 1) m l = fewL j m l ++ [(l[j]'(by omega)).take m]) := fewL_succ l j m _ hx
      have hlen1 : Hid ((fewL j m l).length + 1 = q + 1) := by show _ = _; rw [fewL_len l j m (by omega), hq.out]
      have hkl9 : Hid ((fewL j m l).length ≤ 1000000000) := by show _ ≤ _; rw [fewL_len l j m (by omega)]; omega
      generalize l[j]'(by omega) = x at te hsuc
      have lowe := te.low.low
      have c0 := cell_later hb c0
      have te := te.later hb
      have j1 : (j : Int) < len := by omega
      have j2 : (j : Int) < n := by omega
      have hbz := hb.size
      have hcut := cut_at eo el ec m m x wr rfl te hm
      have hold := fun (l1 : Nat) (t : Tx wr eo l1 ec (x.take m)) => rb_old hls t (fun ad ha h0 => lowe ad ha (by have h1 := t.len_eq; have h2 := te.len_eq; rw [List.length_take] at h1; omega)) (.cells #[.slice eo l1 ec] 22)
      have hl2 := fun (l1 : Nat) => ls_new hls (Below.refl _ _) (.cells #[.slice eo l1 ec] 22)
      have hB9 := fun (l1 : Nat) => (by simp; omega : w.heap.size ≤ (wr.alloc (.cells #[.slice eo l1 ec] 22)).heap.size)
      go_wp2_with (first
        | (go_at_call 17; with_reducible refine hcut.mono ?_; rintro e w1 ⟨l1, rfl, hl1, t1, rfl⟩; have hr1 := hold l1 t1; have hl3 := hl2 l1; have hB8 := hB9 l1)
        | (with_reducible show wpList _ _ _ (⟨some 28, _, _, _, _, _⟩ :: _) _ _; refine wpList_one RB.stable RB.plain Try.underlying24 Try.info22 rfl (by omega) (by omega) rfl _ _ rfl w.heap.size (.slice bo q cb) (fewL j m l) rfl hl3 ⟨wr.heap.size, 0, none⟩ 1 [.slice eo l1 ec] (x.take m) rfl (lx_cell_one wr _ 22) hr1 hkl9.out hB8 ?_; intro ao5 n5 c5 w5 hn5 hls5 hof5 hsub5; have hn6 := hn5.trans hlen1.out; clear hn5; subst hn6))
      go_roundw
      case rel => exact ⟨j + 1, q + 1, ao5, c5, by omega, by omega, by go_num, rfl, by show _ = _; rw [hq.out], by rw [hsuc.out]; exact hls5, below_one hls hb (Below.refl _ _) hof5⟩
      case measure => simp [intOf]; omega
    · have hq' : (j : Int) < (len : Int) → ¬ (j : Int) < (n : Int) := by omega
      have hend : fewL j m l = fewL n m l := by
        rw [fewL, fewL]
        congr 1
        by_cases hjn2 : j = n
        · rw [hjn2]
        · rw [List.take_of_length_le (by omega), List.take_of_length_le (by omega)]
      obtain ⟨ao9, cap9, e9, hx9⟩ := hls.read RB.stable RB.plain
      simp only [Value.slice.injEq] at e9
      obtain ⟨rfl, e10, rfl⟩ := e9
      rw [← e10, hend] at hx9
      clear hls hend e10
      go_wp2
      all_goals go_ret
      all_goals exact ⟨bo, q, cb, rfl, hx9, hb⟩

end Go.Proofs.Ytondfbjldonogaa
