/- The walk of the document's All. -/
import Derived.Test.YtgleblfkcdkaeaaDoorFWalksJ
namespace Go.Proofs.YtgleblfkcdkaeaaDoor
open Go.RowKit

theorem own_empty2 (w : World) : Gr w.heap.size (w.alloc (.cells #[] 5)) (some ⟨w.heap.size, 0, none⟩) 0 0 [] := ⟨own_empty w, by simp, by simp⟩

theorem rget_yes (K : Int) (k : Nat) (hK : K = (k : Int)) (hk : k ≤ 8) (ao : Option Addr) (l c : Nat) (ys : List Int) (w : World) (h : Tx w ao l c ys) (hl : ¬ l < k) (hl9 : l ≤ 1000000000) :
    Calls Tryd.prog 45 #[.slice ao l c, .int .i64 K] w fun e w' => e = .returned (.tuple #[.int .u64 (getN ys k), .bool true]) ∧ w = w' := by
  subst hK
  have g : okG ys k = true := by have := h.len_eq; simp [okG]; omega
  refine (refget_any ao l c k ys w h (by omega) (by omega) (by omega)).mono ?_
  rintro e w' ⟨rfl, hw⟩
  exact ⟨by rw [g], hw⟩
theorem rget_no (K : Int) (k : Nat) (hK : K = (k : Int)) (hk : k ≤ 8) (ao : Option Addr) (l c : Nat) (ys : List Int) (w : World) (h : Tx w ao l c ys) (hl : l < k) :
    Calls Tryd.prog 45 #[.slice ao l c, .int .i64 K] w fun e w' => e = .returned (.tuple #[.int .u64 0, .bool false]) ∧ w = w' := by
  subst hK
  have g := getN_short k ys (by have := h.len_eq; omega)
  refine (refget_any ao l c k ys w h (by omega) (by omega) (by omega)).mono ?_
  rintro e w' ⟨rfl, hw⟩
  exact ⟨by rw [g.1, g.2], hw⟩

theorem rall_end {w wr : World} {xs : List Int} {out : List (List Int)} {a n : Nat} {ok : Bool} {ro : Option Addr} {rc : Nat} (hd : allL xs = (out, a, ok)) (hls : Ls 27 1 RB wr w.heap.size (.slice ro n rc) out) (hb : Below w.heap.size w wr) :
    ∃ bo lb cb, Ending.returned (.tuple #[.slice ro n rc, .int .i64 a, .bool ok]) = .returned (.tuple #[.slice bo lb cb, .int .i64 (allL xs).2.1, .bool (allL xs).2.2]) ∧ Lx 1 RB wr bo lb cb (allL xs).1 ∧ Below w.heap.size w wr := by
  obtain ⟨ao, cap, e, hl⟩ := hls.read RB.stable RB.plain
  simp only [Value.slice.injEq] at e
  obtain ⟨rfl, rfl, rfl⟩ := e
  rw [hd]
  exact ⟨ro, out.length, rc, rfl, hl, hb⟩

theorem rb_gr {X wr : World} {ro co : Option Addr} {n rc : Nat} {B A cc : Nat} {out : List (List Int)} {x : List Int} (hls : Ls 27 1 RB wr B (.slice ro n rc) out) (g : Gr wr.heap.size X co A cc x) (o : Obj) : RB (X.alloc o) (own (.slice ro n rc)) [.slice co A cc] x :=
  rb_new hls g.tx (fun ad ha => (g.lt ad.block (by subst ha; simp [own, Value.ownBlock])).2) o

set_option maxHeartbeats 4000000 in
theorem rall_any (ao : Option Addr) (la ca : Nat) (xs : List Int) (w : World) (ha : Tx w ao la ca xs) (sa : la ≤ 900000000) :
    Calls Tryd.prog 26 #[.slice ao la ca] w fun e w' => ∃ bo lb cb, e = .returned (.tuple #[.slice bo lb cb, .int .i64 (allL xs).2.1, .bool (allL xs).2.2]) ∧ Lx 1 RB w' bo lb cb (allL xs).1 ∧ Below w.heap.size w w' := by
  have e1 := ha.len_eq
  have hle := ha.le
  have htop := ha.top
  generalize hP : (fun (e : Ending) (w' : World) => ∃ bo lb cb, e = .returned (.tuple #[.slice bo lb cb, .int .i64 (allL xs).2.1, .bool (allL xs).2.2]) ∧ Lx 1 RB w' bo lb cb (allL xs).1 ∧ Below w.heap.size w w') = P
  have hend : ∀ (wr : World) (out : List (List Int)) (a n : Nat) (ok : Bool) (ro : Option Addr) (rc : Nat), allL xs = (out, a, ok) → Ls 27 1 RB wr w.heap.size (.slice ro n rc) out → Below w.heap.size w wr → P (.returned (.tuple #[.slice ro n rc, .int .i64 a, .bool ok])) wr := by
    intro wr out a n ok ro rc hd hls hb
    rw [← hP]
    exact rall_end hd hls hb
  clear hP
  by_cases h0 : 0 < la
  · obtain ⟨b, off, rfl, hc⟩ := ha.head h0
    go_enter Tryd.func26, Tryd.ntmps26
    go_wp2
    go_loopw [5, 6] (fun r i wr => ∃ (a n : Nat) (ro : Option Addr) (rc : Nat) (out : List (List Int)), a ≤ la ∧ i = .int .i64 a ∧ r = .slice ro n rc ∧ Hid (n = out.length) ∧ n ≤ 900000000 ∧ Hid (Gone xs out a) ∧ Ls 27 1 RB wr w.heap.size (.slice ro n rc) out ∧ Below w.heap.size w wr) (fun _ i _ => la - (intOf i).toNat)
    case atStart => exact ⟨0, 0, none, 0, [], by omega, rfl, rfl, rfl, by omega, Gone.start xs, Ls.nil _ _ _ _ _, Below.refl _ _⟩
    case round =>
      obtain ⟨a, n, ro, rc, out, hal, rfl, rfl, hn, hn9, hg, hls, hb⟩ := hrel
      by_cases h6 : la - a < 6
      · have hd := hg.out.stop (allL_short (by simp; omega))
        have hfin := hend wr out a n true ro rc hd hls hb
        have h6i : (la : Int) - (a : Int) < 6 := by omega
        clear hd hend
        go_wp2
        go_ret3
        exact hfin
      · have hca : ¬ ca = a := by omega
        have hca3 : ¬ ca = a + 3 := by omega
        have td := (ha.drop a hal).later hb
        have td3 := (ha.drop (a + 3) (by omega)).later hb
        have hby : Bytes (xs.drop a) := td.rng
        have hby3 : Bytes (xs.drop (a + 3)) := td3.rng
        have h6' : ¬ (xs.drop a).length < 6 := by simp; omega
        have ge := rget_yes 3 3 rfl (by omega) _ (la - a) (ca - a) _ wr td (by omega) (by omega)
        have ge3 := rget_yes 3 3 rfl (by omega) _ (la - (a + 3)) (ca - (a + 3)) _ wr td3 (by omega) (by omega)
        rw [show ((3 : Nat) : Int) = 3 from rfl, val3 _ hby (by omega)] at ge
        rw [show ((3 : Nat) : Int) = 3 from rfl, val3 _ hby3 (by simp; omega)] at ge3
        obtain ⟨r1, r2⟩ := num3_rng hby
        obtain ⟨q1, q2⟩ := num3_rng hby3
        obtain ⟨A, hA⟩ : ∃ A : Nat, Hid (num3 (xs.drop a) = (A : Int)) := ⟨(num3 (xs.drop a)).toNat, by show _ = _; omega⟩
        obtain ⟨D, hD⟩ : ∃ D : Nat, Hid (num3 (xs.drop (a + 3)) = (D : Int)) := ⟨(num3 (xs.drop (a + 3))).toNat, by show _ = _; omega⟩
        rw [hA.out] at r1 r2 ge
        rw [hD.out] at q1 q2 ge3
        have hgood : Hid (goodH (xs.drop a) = decide (A + D = 16777215 ∧ A ≤ 1048576)) := by
          show _ = _
          rw [goodH, List.drop_drop, hA.out, hD.out]
          congr 1
          apply propext
          omega
        have h6i : ¬ (la : Int) - (a : Int) < 6 := by omega
        by_cases heq : A + D = 16777215
        · have heqi : ((A : Int) + (D : Int) != 16777215) = false := by simp; omega
          have heqj : (A : Int) + (D : Int) = 16777215 := by omega
          by_cases hlong : 1048576 < A
          · have hd := hg.out.stop (allL_bad h6' (by rw [hgood.out]; simp; omega))
            have hfin := hend wr out a n false ro rc hd hls hb
            clear hd hend heqj
            go_wp2_with (first | (go_at_call 45; with_reducible refine ge.mono ?_; rintro e w1 ⟨rfl, rfl⟩) | (go_at_call 45; with_reducible refine ge3.mono ?_; rintro e w1 ⟨rfl, rfl⟩))
            go_ret3
            exact hfin
          · have hg1 : goodH (xs.drop a) = true := by rw [hgood.out]; simp; omega
            clear heqj
            by_cases hfit : la - (a + 6) < A
            · have hd := hg.out.stop (allL_torn h6' hg1 (by rw [hA.out]; simp; omega))
              have hfin := hend wr out a n true ro rc hd hls hb
              have hfi : (la : Int) - (a : Int) - 6 < (A : Int) := by omega
              clear hd hend
              go_wp2_with (first | (go_at_call 45; with_reducible refine ge.mono ?_; rintro e w1 ⟨rfl, rfl⟩) | (go_at_call 45; with_reducible refine ge3.mono ?_; rintro e w1 ⟨rfl, rfl⟩))
              go_ret3
              exact hfin
            · have hst := hg.out.step h6' hg1 hA.out (by simp; omega)
              rw [List.drop_drop] at hst
              have hst' : Hid (Gone xs (out ++ [(xs.drop (a + 6)).take A]) (a + 6 + A)) := hst
              have hlen : ((xs.drop (a + 6)).take A).length = A := by simp; omega
              have hfi : ¬ (la : Int) - (a : Int) - 6 < (A : Int) := by omega
              clear hst hend
              have hout : n + 1 ≤ 900000000 := by have h1 := hn.out; have h2 := hst'.out.2.1; have h3 := hst'.out.1; rw [List.length_append] at h2; simp only [List.length_cons, List.length_nil] at h2; omega
              have hnl := hn.out
              have hn' : Hid (n + 1 = (out ++ [(xs.drop (a + 6)).take A]).length) := by show _ = _; simp [hnl]
              have g0 := own_empty2 wr
              have hbe : Below wr.heap.size wr (wr.alloc (.cells #[] 5)) := (Below.refl _ _).alloc (Nat.le_refl _) _
              by_cases hcs : ca = a + 6
              · have hX0 : (xs.drop (a + 6)).take A = [] := List.eq_nil_of_length_eq_zero (by rw [hlen]; omega)
                have tsl : Tx (wr.alloc (.cells #[] 5)) (some ⟨b, off, none⟩) (a + 6 + A - (a + 6)) (ca - (a + 6)) ((xs.drop (a + 6)).take A) := by rw [hX0]; exact Tx.ended _ _ _ _ (by omega) (by omega)
                clear hX0
                have hcs1 : ca ≤ a + 6 := by omega
                have hcs2 : a + 6 ≤ ca := by omega
                clear hcs
                generalize (xs.drop (a + 6)).take A = X at tsl hlen hn' hst'
                subst hnl
                go_wp2_with (first | (go_at_call 45; with_reducible refine ge.mono ?_; rintro e w1 ⟨rfl, rfl⟩) | (go_at_call 45; with_reducible refine ge3.mono ?_; rintro e w1 ⟨rfl, rfl⟩) | (with_reducible show wpList _ _ _ (⟨some 64, _, _, _, _, _⟩ :: _) _ _; refine wpList_gr rfl _ _ rfl wr.heap.size (some ⟨wr.heap.size, 0, none⟩) 0 0 [] rfl g0 (some ⟨b, off, none⟩) (a + 6 + A - (a + 6)) (ca - (a + 6)) X rfl tsl (by omega) ?_; intro a6 n6 c6 V hl6 g6 m6; rw [List.nil_append] at g6; have bV := hbe.trans (m6.below g0); have hr1 := rb_gr hls g6 (.cells #[.slice a6 n6 c6] 27); have hl2 := ls_new hls bV (.cells #[.slice a6 n6 c6] 27); have hB9 : w.heap.size ≤ (V.alloc (.cells #[.slice a6 n6 c6] 27)).heap.size := (by have := hb.size; have := bV.size; simp; omega)) | (with_reducible show wpList _ _ _ (⟨some 66, _, _, _, _, _⟩ :: _) _ _; refine wpList_one RB.stable RB.plain Tryd.underlying46 Tryd.info27 rfl (by omega) (by omega) rfl _ _ rfl w.heap.size (.slice ro out.length rc) out rfl hl2 ⟨V.heap.size, 0, none⟩ 1 [.slice a6 n6 c6] X rfl (lx_cell_one V _ 27) hr1 (by omega) hB9 ?_; intro ao5 n5 c5 w5 hn5 hls5 hof5 hsub5; subst hn5))
                go_roundw
                case rel => exact ⟨a + 6 + A, out.length + 1, ao5, c5, out ++ [X], by omega, by go_num, rfl, hn', hout, hst', hls5, below_one hls hb bV hof5⟩
                case measure => simp [intOf]; omega
              · have tsl : Tx (wr.alloc (.cells #[] 5)) (some ⟨b, off + (a + 6), none⟩) (a + 6 + A - (a + 6)) (ca - (a + 6)) ((xs.drop (a + 6)).take A) := by
                  rw [show a + 6 + A - (a + 6) = A by omega]
                  exact (((ha.drop (a + 6) (by omega)).take A (by omega)).later hb).later hbe
                generalize (xs.drop (a + 6)).take A = X at tsl hlen hn' hst'
                subst hnl
                go_wp2_with (first | (go_at_call 45; with_reducible refine ge.mono ?_; rintro e w1 ⟨rfl, rfl⟩) | (go_at_call 45; with_reducible refine ge3.mono ?_; rintro e w1 ⟨rfl, rfl⟩) | (with_reducible show wpList _ _ _ (⟨some 64, _, _, _, _, _⟩ :: _) _ _; refine wpList_gr rfl _ _ rfl wr.heap.size (some ⟨wr.heap.size, 0, none⟩) 0 0 [] rfl g0 (some ⟨b, off + (a + 6), none⟩) (a + 6 + A - (a + 6)) (ca - (a + 6)) X rfl tsl (by omega) ?_; intro a6 n6 c6 V hl6 g6 m6; rw [List.nil_append] at g6; have bV := hbe.trans (m6.below g0); have hr1 := rb_gr hls g6 (.cells #[.slice a6 n6 c6] 27); have hl2 := ls_new hls bV (.cells #[.slice a6 n6 c6] 27); have hB9 : w.heap.size ≤ (V.alloc (.cells #[.slice a6 n6 c6] 27)).heap.size := (by have := hb.size; have := bV.size; simp; omega)) | (with_reducible show wpList _ _ _ (⟨some 66, _, _, _, _, _⟩ :: _) _ _; refine wpList_one RB.stable RB.plain Tryd.underlying46 Tryd.info27 rfl (by omega) (by omega) rfl _ _ rfl w.heap.size (.slice ro out.length rc) out rfl hl2 ⟨V.heap.size, 0, none⟩ 1 [.slice a6 n6 c6] X rfl (lx_cell_one V _ 27) hr1 (by omega) hB9 ?_; intro ao5 n5 c5 w5 hn5 hls5 hof5 hsub5; subst hn5))
                go_roundw
                case rel => exact ⟨a + 6 + A, out.length + 1, ao5, c5, out ++ [X], by omega, by go_num, rfl, hn', hout, hst', hls5, below_one hls hb bV hof5⟩
                case measure => simp [intOf]; omega
        · have heqi : ((A : Int) + (D : Int) != 16777215) = true := by simp; omega
          have hd := hg.out.stop (allL_bad h6' (by rw [hgood.out]; simp; omega))
          have hfin := hend wr out a n false ro rc hd hls hb
          clear hd hend
          go_wp2_with (first | (go_at_call 45; with_reducible refine ge.mono ?_; rintro e w1 ⟨rfl, rfl⟩) | (go_at_call 45; with_reducible refine ge3.mono ?_; rintro e w1 ⟨rfl, rfl⟩))
          go_ret3
          exact hfin
  · obtain rfl : la = 0 := by omega
    have hx : xs = [] := List.eq_nil_of_length_eq_zero e1
    subst hx
    have hd : allL [] = ([], 0, true) := allL_short (by simp)
    have hfin : P (.returned (.tuple #[.slice none 0 0, .int .i64 0, .bool true])) w := hend w [] 0 0 true none 0 hd (Ls.nil 27 1 RB w w.heap.size) (Below.refl _ _)
    clear hend
    go_enter Tryd.func26, Tryd.ntmps26
    go_wp2
    refine wp_loop_rounds 1 ?_
    rw [rounds_succ]
    go_wp2
    go_ret3
    exact hfin

end Go.Proofs.YtgleblfkcdkaeaaDoor
