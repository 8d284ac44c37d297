/- The walk of frame.All. -/
import Derived.Test.YtgleblfkcdkaeaaDoorFWalksD
namespace Go.Proofs.YtgleblfkcdkaeaaDoor
open Go.RowKit

theorem Tx.drop {w : World} {b off : Nat} {len cap : Nat} {xs : List Int} (h : Tx w (some ⟨b, off, none⟩) len cap xs) (k : Nat) (hk : k ≤ len) : Tx w (some ⟨b, off + k, none⟩) (len - k) (cap - k) (xs.drop k) := by
  refine ⟨by have := h.len_eq; simp; omega, by have := h.le; omega, by have := h.top; omega, fun ha => (by cases ha), fun ad ha j hj => ?_, fun n hn => h.rng n (List.mem_of_mem_drop hn)⟩
  cases ha
  have := h.cell _ rfl (k + j) (by omega)
  rw [Addr.add_lit] at this ⊢
  rw [Nat.add_assoc, this]
  simp [List.getD]

theorem val6 (xs : List Int) (hb : Bytes xs) (h : 6 ≤ xs.length) : getN xs 6 = num3 xs * 16777216 + num3 (xs.drop 3) := by
  match xs, h, hb with
  | a :: b :: c :: d :: e :: f :: r, _, hb =>
    have ha := hb.head
    have hb1 := hb.tail.head
    have hc := hb.tail.tail.head
    have hd := hb.tail.tail.tail.head
    have he := hb.tail.tail.tail.tail.head
    have hf := hb.tail.tail.tail.tail.tail.head
    have hok : okG (a :: b :: c :: d :: e :: f :: r) 6 = true := by simp [okG]; omega
    rw [getN, if_pos hok]
    show joinB (joinB (joinB (joinB (joinB (joinB 0 a) b) c) d) e) f = _
    rw [joinB_eq 0 a (by omega) (by omega) (by omega) (by omega), joinB_eq _ b (by omega) (by omega) (by omega) (by omega), joinB_eq _ c (by omega) (by omega) (by omega) (by omega), joinB_eq _ d (by omega) (by omega) (by omega) (by omega), joinB_eq _ e (by omega) (by omega) (by omega) (by omega), joinB_eq _ f (by omega) (by omega) (by omega) (by omega)]
    simp [num3]
    omega
theorem val3 (xs : List Int) (hb : Bytes xs) (h : 3 ≤ xs.length) : getN xs 3 = num3 xs := by
  match xs, h, hb with
  | a :: b :: c :: r, _, hb =>
    have ha := hb.head
    have hb1 := hb.tail.head
    have hc := hb.tail.tail.head
    have hok : okG (a :: b :: c :: r) 3 = true := by simp [okG]; omega
    rw [getN, if_pos hok]
    show joinB (joinB (joinB 0 a) b) c = _
    rw [joinB_eq 0 a (by omega) (by omega) (by omega) (by omega), joinB_eq _ b (by omega) (by omega) (by omega) (by omega), joinB_eq _ c (by omega) (by omega) (by omega) (by omega)]
    simp [num3]
    omega

/-- A slice that has come to its end. -/
theorem Tx.ended (w : World) (ao : Addr) (n c : Nat) (h : n = 0) (hc : c ≤ maxLen) : Tx w (some ao) n c [] := ⟨by simp [h], by omega, hc, fun h => (by cases h), fun _ _ j hj => (by omega), by simp⟩

theorem get_no (K : Int) (k : Nat) (hK : K = (k : Int)) (hk : k ≤ 8) (ao : Option Addr) (l c : Nat) (ys : List Int) (w : World) (h : Tx w ao l c ys) (hl : l < k) :
    Calls Tryd.prog 49 #[.slice ao l c, .int .i64 K] w fun e w' => e = .returned (.tuple #[.int .u64 0, .bool false]) ∧ w = w' := by
  subst hK
  have g := getN_short k ys (by have := h.len_eq; omega)
  refine (get_any ao l c k ys w h (by omega) (by omega) (by omega)).mono ?_
  rintro e w' ⟨rfl, hw⟩
  exact ⟨by rw [g.1, g.2], hw⟩
theorem get_yes (K : Int) (k : Nat) (hK : K = (k : Int)) (hk : k ≤ 8) (ao : Option Addr) (l c : Nat) (ys : List Int) (w : World) (h : Tx w ao l c ys) (hl : ¬ l < k) (hl9 : l ≤ 1000000000) :
    Calls Tryd.prog 49 #[.slice ao l c, .int .i64 K] w fun e w' => e = .returned (.tuple #[.int .u64 (getN ys k), .bool true]) ∧ w = w' := by
  subst hK
  have g : okG ys k = true := by have := h.len_eq; simp [okG]; omega
  refine (get_any ao l c k ys w h (by omega) (by omega) (by omega)).mono ?_
  rintro e w' ⟨rfl, hw⟩
  exact ⟨by rw [g], hw⟩

theorem all_end {w wr : World} {xs : List Int} {out : List (List Int)} {a n : Nat} {ok : Bool} {ro : Option Addr} {rc : Nat} (hd : allL xs = (out, a, ok)) (hls : Ls 27 1 RB wr w.heap.size (.slice ro n rc) out) (hb : Below w.heap.size w wr) (code : Int) (hc : code = if ok = true then 0 else 14) :
    ∃ bo lb cb, Ending.returned (.tuple #[.slice ro n rc, .int .i64 a, .int .i64 code]) = .returned (.tuple #[.slice bo lb cb, .int .i64 (allL xs).2.1, .int .i64 (if (allL xs).2.2 = true then 0 else 14)]) ∧ Lx 1 RB wr bo lb cb (allL xs).1 ∧ Below w.heap.size w wr := by
  obtain ⟨ao, cap, e, hl⟩ := hls.read RB.stable RB.plain
  simp only [Value.slice.injEq] at e
  obtain ⟨rfl, rfl, rfl⟩ := e
  rw [hd]
  exact ⟨ro, out.length, rc, by rw [hc], hl, hb⟩

theorem rb_new {V wr : World} {ro co : Option Addr} {n rc A cc : Nat} {B : Nat} {out : List (List Int)} {X : List Int} (hls : Ls 27 1 RB wr B (.slice ro n rc) out) (t : Tx V co A cc X) (hf : ∀ ad, co = some ad → wr.heap.size ≤ ad.block) (o : Obj) : RB (V.alloc o) (own (.slice ro n rc)) [.slice co A cc] X :=
  ⟨_, rfl, (t.alloc o).at _ (fun ad ha _ hk => by have := (hls.lt _ hk).1; have := hf ad ha; omega)⟩
theorem ls_new {V wr : World} {v : Value} {B : Nat} {out : List (List Int)} (hls : Ls 27 1 RB wr B v out) (hb : Below wr.heap.size wr V) (o : Obj) : Ls 27 1 RB (V.alloc o) B v out := hls.later RB.stable (hb.alloc hb.size o)
/-- What was written in the list's own row, and what is new, leaves all that was there. -/
theorem below_one {w wr V w5 : World} {v : Value} {out : List (List Int)} {o : Obj} (hls : Ls 27 1 RB wr w.heap.size v out) (hb : Below w.heap.size w wr) (hV : Below wr.heap.size wr V) (ho : Off (own v) (V.alloc o) w5) : Below w.heap.size w w5 :=
  (hb.trans ((hV.alloc hV.size o).mono hb.size)).trans (ho.below (fun k hk => (hls.lt k hk).2) (by have := hb.size; have := hV.size; simp; omega))

theorem lx_cell_one (w : World) (v : Value) (t : TypeId) (j : Nat) (x : Value) (h : [v][j]? = some x) : (w.alloc (.cells #[v] t)).cell? ((⟨w.heap.size, 0, none⟩ : Addr).add j) = some x := cell_one_new w v t j x h

set_option maxHeartbeats 2000000 in
theorem fall_any (ao : Option Addr) (la ca : Nat) (xs : List Int) (w : World) (ha : Tx w ao la ca xs) (sa : la ≤ 900000000) :
    Calls Tryd.prog 41 #[.slice ao la ca] w fun e w' => ∃ bo lb cb, e = .returned (.tuple #[.slice bo lb cb, .int .i64 (allL xs).2.1, .int .i64 (if (allL xs).2.2 = true then 0 else 14)]) ∧ Lx 1 RB w' bo lb cb (allL xs).1 ∧ Below w.heap.size w w' := by
  have e1 := ha.len_eq
  have hle := ha.le
  have htop := ha.top
  generalize hP : (fun (e : Ending) (w' : World) => ∃ bo lb cb, e = .returned (.tuple #[.slice bo lb cb, .int .i64 (allL xs).2.1, .int .i64 (if (allL xs).2.2 = true then 0 else 14)]) ∧ Lx 1 RB w' bo lb cb (allL xs).1 ∧ Below w.heap.size w w') = P
  have hend : ∀ (wr : World) (out : List (List Int)) (a n : Nat) (ok : Bool) (ro : Option Addr) (rc : Nat) (code : Int), allL xs = (out, a, ok) → Ls 27 1 RB wr w.heap.size (.slice ro n rc) out → Below w.heap.size w wr → code = (if ok = true then 0 else 14) → P (.returned (.tuple #[.slice ro n rc, .int .i64 a, .int .i64 code])) wr := by
    intro wr out a n ok ro rc code hd hls hb hcode
    rw [← hP]
    exact all_end hd hls hb code hcode
  clear hP
  by_cases h0 : 0 < la
  · obtain ⟨b, off, rfl, hc⟩ := ha.head h0
    go_enter Tryd.func41, Tryd.ntmps41
    go_wp2
    go_loopw [5, 6] (fun r i wr => ∃ (a n : Nat) (ro : Option Addr) (rc : Nat) (out : List (List Int)), a ≤ la ∧ i = .int .i64 a ∧ r = .slice ro n rc ∧ Hid (n = out.length) ∧ n ≤ 900000000 ∧ Hid (Gone xs out a) ∧ Ls 27 1 RB wr w.heap.size (.slice ro n rc) out ∧ Below w.heap.size w wr) (fun _ i _ => la - (intOf i).toNat)
    case atStart => exact ⟨0, 0, none, 0, [], by omega, rfl, rfl, rfl, by omega, Gone.start xs, Ls.nil _ _ _ _ _, Below.refl _ _⟩
    case round =>
      obtain ⟨a, n, ro, rc, out, hal, rfl, rfl, hn, hn9, hg, hls, hb⟩ := hrel
      by_cases h6 : la - a < 6
      · have hd := hg.out.stop (allL_short (by simp; omega))
        have hfin := hend wr out a n true ro rc 0 hd hls hb rfl
        clear hd hend
        by_cases hca : ca = a
        · subst hca
          have ge := get_no 6 6 rfl (by omega) (some ⟨b, off, none⟩) 0 0 [] wr (Tx.ended _ _ _ _ rfl (by omega)) (by omega)
          go_wp2_with (go_at_call 49; with_reducible refine ge.mono ?_; rintro e w1 ⟨rfl, rfl⟩)
          go_ret3
          exact hfin
        · have ge := get_no 6 6 rfl (by omega) _ (la - a) (ca - a) _ wr ((ha.drop a hal).later hb) h6
          go_wp2_with (go_at_call 49; with_reducible refine ge.mono ?_; rintro e w1 ⟨rfl, rfl⟩)
          go_ret3
          exact hfin
      · have hca : ¬ ca = a := by omega
        have td := (ha.drop a hal).later hb
        have ge := get_yes 6 6 rfl (by omega) _ (la - a) (ca - a) _ wr td h6 (by omega)
        have hby : Bytes (xs.drop a) := td.rng
        have h6' : ¬ (xs.drop a).length < 6 := by simp; omega
        rw [show ((6 : Nat) : Int) = 6 from rfl, val6 _ hby (by omega)] at ge
        obtain ⟨r1, r2⟩ := num3_rng hby
        obtain ⟨q1, q2⟩ := num3_rng (hby.drop 3)
        obtain ⟨A, hA⟩ : ∃ A : Nat, Hid (num3 (xs.drop a) = (A : Int)) := ⟨(num3 (xs.drop a)).toNat, by show _ = _; omega⟩
        obtain ⟨D, hD⟩ : ∃ D : Nat, Hid (num3 ((xs.drop a).drop 3) = (D : Int)) := ⟨(num3 ((xs.drop a).drop 3)).toNat, by show _ = _; omega⟩
        rw [hA.out] at r1 r2
        rw [hD.out] at q1 q2
        rw [hA.out, hD.out] at ge
        have hgood : Hid (goodH (xs.drop a) = decide (A + D = 16777215 ∧ A ≤ 1048576)) := by
          show _ = _
          rw [goodH, hA.out, hD.out]
          congr 1
          apply propext
          omega
        obtain ⟨H, hH⟩ : ∃ H : Int, Hid (H = (A : Int) * 16777216 + (D : Int)) := ⟨_, rfl⟩
        rw [← hH.out] at ge
        have hH1 : H / 16777216 = (A : Int) := by rw [hH.out]; omega
        have hH2 : 0 ≤ H := by rw [hH.out]; omega
        have hH3 : H < 281474976710656 := by rw [hH.out]; omega
        by_cases hlong : 1048576 < A
        · have hd := hg.out.stop (allL_bad h6' (by rw [hgood.out]; simp; omega))
          have hfin := hend wr out a n false ro rc 14 hd hls hb rfl
          clear hd hend
          go_wp2_with (go_at_call 49; with_reducible refine ge.mono ?_; rintro e w1 ⟨rfl, rfl⟩)
          go_ret3
          exact hfin
        · have hhead := head_any (A : Int) A rfl (by omega) wr
          by_cases heq : A + D = 16777215
          · have hHE : Hid (headN A = H) := by show _ = _; rw [hH.out, headN]; omega
            rw [hHE.out] at hhead
            have hg1 : goodH (xs.drop a) = true := by rw [hgood.out]; simp; omega
            by_cases hfit : la - (a + 6) < A
            · have hd := hg.out.stop (allL_torn h6' hg1 (by rw [hA.out]; simp; omega))
              have hfin := hend wr out a n true ro rc 0 hd hls hb rfl
              clear hd hend
              have hfi : (la : Int) - ((a : Int) + 6) < (A : Int) := by omega
              go_wp2_with (first | (go_at_call 49; with_reducible refine ge.mono ?_; rintro e w1 ⟨rfl, rfl⟩) | (go_at_call 52; with_reducible refine hhead.mono ?_; rintro e w1 ⟨rfl, rfl⟩))
              go_ret3
              exact hfin
            · have hst := hg.out.step h6' hg1 hA.out (by simp; omega)
              rw [List.drop_drop] at hst
              have hst' : Hid (Gone xs (out ++ [(xs.drop (a + 6)).take A]) (a + 6 + A)) := hst
              have hlen : ((xs.drop (a + 6)).take A).length = A := by simp; omega
              have hfi : ¬ (la : Int) - ((a : Int) + 6) < (A : Int) := by omega
              clear hst hend
              have hout : n + 1 ≤ 900000000 := by have h1 := hn.out; have h2 := hst'.out.2.1; have h3 := hst'.out.1; rw [List.length_append] at h2; simp only [List.length_cons, List.length_nil] at h2; omega
              have hnl := hn.out
              have hn' : Hid (n + 1 = (out ++ [(xs.drop (a + 6)).take A]).length) := by show _ = _; simp [hnl]
              by_cases hcs : ca = a + 6
              · have hX0 : (xs.drop (a + 6)).take A = [] := List.eq_nil_of_length_eq_zero (by rw [hlen]; omega)
                have tcl := bclone_any (some ⟨b, off, none⟩) A 0 ((xs.drop (a + 6)).take A) wr (by rw [hX0]; exact Tx.ended _ _ _ _ (by omega) (by omega)) (by omega)
                clear hX0
                have hcs1 : ca ≤ a + 6 := by omega
                have hcs2 : a + 6 ≤ ca := by omega
                clear hcs
                generalize (xs.drop (a + 6)).take A = X at tcl hlen hn' hst'
                subst hnl
                go_wp2_with (first | (go_at_call 49; with_reducible refine ge.mono ?_; rintro e w1 ⟨rfl, rfl⟩) | (go_at_call 52; with_reducible refine hhead.mono ?_; rintro e w1 ⟨rfl, rfl⟩) | (go_at_call 60; with_reducible refine tcl.mono ?_; rintro e V ⟨co, cc, rfl, tV, fV, bV⟩; have hr1 := rb_new hls tV fV (.cells #[.slice co A cc] 27); have hl2 := ls_new hls bV (.cells #[.slice co A cc] 27); have hB9 : w.heap.size ≤ (V.alloc (.cells #[.slice co A cc] 27)).heap.size := (by have := hb.size; have := bV.size; simp; omega)) | (with_reducible show wpList _ _ _ (⟨some 55, _, _, _, _, _⟩ :: _) _ _; refine wpList_one RB.stable RB.plain Tryd.underlying46 Tryd.info27 rfl (by omega) (by omega) rfl _ _ rfl w.heap.size (.slice ro out.length rc) out rfl hl2 ⟨V.heap.size, 0, none⟩ 1 [.slice co A cc] X rfl (lx_cell_one V _ 27) hr1 (by omega) hB9 ?_; intro ao5 n5 c5 w5 hn5 hls5 hof5 hsub5; subst hn5))
                go_roundw
                case rel => exact ⟨a + 6 + A, out.length + 1, ao5, c5, out ++ [X], by omega, by go_num, rfl, hn', hout, hst', hls5, below_one hls hb bV hof5⟩
                case measure => simp [intOf]; omega
              · have tcl := bclone_any (some ⟨b, off + (a + 6), none⟩) A (ca - (a + 6)) ((xs.drop (a + 6)).take A) wr (((ha.drop (a + 6) (by omega)).take A (by omega)).later hb) (by omega)
                generalize (xs.drop (a + 6)).take A = X at tcl hlen hn' hst'
                subst hnl
                go_wp2_with (first | (go_at_call 49; with_reducible refine ge.mono ?_; rintro e w1 ⟨rfl, rfl⟩) | (go_at_call 52; with_reducible refine hhead.mono ?_; rintro e w1 ⟨rfl, rfl⟩) | (go_at_call 60; with_reducible refine tcl.mono ?_; rintro e V ⟨co, cc, rfl, tV, fV, bV⟩; have hr1 := rb_new hls tV fV (.cells #[.slice co A cc] 27); have hl2 := ls_new hls bV (.cells #[.slice co A cc] 27); have hB9 : w.heap.size ≤ (V.alloc (.cells #[.slice co A cc] 27)).heap.size := (by have := hb.size; have := bV.size; simp; omega)) | (with_reducible show wpList _ _ _ (⟨some 55, _, _, _, _, _⟩ :: _) _ _; refine wpList_one RB.stable RB.plain Tryd.underlying46 Tryd.info27 rfl (by omega) (by omega) rfl _ _ rfl w.heap.size (.slice ro out.length rc) out rfl hl2 ⟨V.heap.size, 0, none⟩ 1 [.slice co A cc] X rfl (lx_cell_one V _ 27) hr1 (by omega) hB9 ?_; intro ao5 n5 c5 w5 hn5 hls5 hof5 hsub5; subst hn5))
                go_roundw
                case rel => exact ⟨a + 6 + A, out.length + 1, ao5, c5, out ++ [X], by omega, by go_num, rfl, hn', hout, hst', hls5, below_one hls hb bV hof5⟩
                case measure => simp [intOf]; omega
          · have hne : ¬ H = headN A := by rw [hH.out, headN]; omega
            have hd := hg.out.stop (allL_bad h6' (by rw [hgood.out]; simp; omega))
            have hfin := hend wr out a n false ro rc 14 hd hls hb rfl
            clear hd hend
            generalize headN A = HA at hhead hne
            have hne' : (H != HA) = true := by simp [hne]
            go_wp2_with (first | (go_at_call 49; with_reducible refine ge.mono ?_; rintro e w1 ⟨rfl, rfl⟩) | (go_at_call 52; with_reducible refine hhead.mono ?_; rintro e w1 ⟨rfl, rfl⟩))
            go_ret3
            exact hfin
  · obtain rfl : la = 0 := by omega
    have hx : xs = [] := List.eq_nil_of_length_eq_zero e1
    subst hx
    have hd : allL [] = ([], 0, true) := allL_short (by simp)
    have hfin : P (.returned (.tuple #[.slice none 0 0, .int .i64 0, .int .i64 0])) w := hend w [] 0 0 true none 0 0 hd (Ls.nil 27 1 RB w w.heap.size) (Below.refl _ _) rfl
    clear hend
    cases ao with
    | none =>
      have hca := (ha.bare rfl).2
      subst hca
      have ge := get_no 6 6 rfl (by omega) none 0 0 [] w ha (by omega)
      go_enter Tryd.func41, Tryd.ntmps41
      go_wp2
      refine wp_loop_rounds 1 ?_
      rw [rounds_succ]
      go_wp2_with (go_at_call 49; with_reducible refine ge.mono ?_; rintro e w1 ⟨rfl, rfl⟩)
      go_ret3
      exact hfin
    | some a0 =>
      have ge := get_no 6 6 rfl (by omega) (some a0) 0 ca [] w ha (by omega)
      go_enter Tryd.func41, Tryd.ntmps41
      go_wp2
      refine wp_loop_rounds 1 ?_
      rw [rounds_succ]
      go_wp2_with (go_at_call 49; with_reducible refine ge.mono ?_; rintro e w1 ⟨rfl, rfl⟩)
      all_goals go_ret3
      all_goals exact hfin

end Go.Proofs.YtgleblfkcdkaeaaDoor
