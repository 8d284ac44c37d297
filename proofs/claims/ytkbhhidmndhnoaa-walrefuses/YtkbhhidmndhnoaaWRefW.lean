/- The walk of WalRefuses. -/
import Derived.Test.YtkbhhidmndhnoaaWHeld
namespace Go.Proofs.Ytkbhhidmndhnoaa
open Go.RowKit Go.Sort

theorem one_files (n : Nat) (xs : List Int) (left : Int) (dn : Bool) : (one n w0 xs 0 left dn).files.length ≤ 1000000 := by simp [one]
theorem one_used (n : Nat) (xs : List Int) (left : Int) (dn : Bool) : used (one n w0 xs 0 left dn).files = xs.length := used_one w0 xs 0

theorem Wd.room_one {w1 w : World} {lg pb c n : Nat} {X : List Int} {left : Int} {dn : Bool} {v : Value} {done : List (List Ent)} (h : Wd w1 w lg pb c (one n w0 X 0 left dn) v done) : X.length ≤ n := by
  have := h.room
  rwa [one_used] at this
theorem Lx.void {w : World} {ao : Option Addr} {n cap : Nat} {es : List (List Ent)} (h : Lx 1 RL w ao n cap es) (V : World) : Lx 1 RL V ao 0 cap [] :=
  ⟨rfl, Nat.zero_le _, h.top, fun e => ⟨rfl, (h.bare e).2⟩, fun ad ha j e he => by simp at he⟩

set_option maxHeartbeats 8000000 in
set_option maxRecDepth 100000 in
theorem refuses_walk (ao : Option Addr) (la ca : Nat) (l : List (List Ent)) (limit arm : Int) (l1 : -9223372036854775808 ≤ limit) (l2 : limit ≤ 9223372036854775807) (m1 : -9223372036854775808 ≤ arm) (m2 : arm ≤ 9223372036854775807) (w : World) (hl : Lx 1 RL w ao la ca l) :
    Calls Try.prog 6 #[.slice ao la ca, .int .i64 limit, .int .i64 arm] w fun e w' => e = .returned (.bool true) ∧ Below w.heap.size w w' := by
  have f1 := batchesL_len 8 l
  have f2 := batchesL_fine 8 l
  have f3 := batchesL_small 8 l
  have k1 := batches_any ao la ca l 8 8 rfl (by omega) w hl
  generalize batchesL 8 l = L at f1 f2 f3 k1
  obtain ⟨q1, q2⟩ := wfun_rng limit 0 300 (by omega)
  obtain ⟨R, hR⟩ : ∃ R : Nat, Hid (wfun limit 0 300 = (R : Int)) := ⟨(wfun limit 0 300).toNat, by show _ = _; omega⟩
  have hwc := fun V => within_eq limit 0 300 l1 l2 (by omega) (by omega) (by omega) V
  rw [hR.out] at hwc q1 q2
  obtain ⟨p1, p2⟩ := wfun_rng arm 0 12 (by omega)
  have hwa := fun V => within_eq arm 0 12 m1 m2 (by omega) (by omega) (by omega) V
  generalize wfun arm 0 12 = P at p1 p2 hwa
  have hR9 : R ≤ 300 := by omega
  have e0 := open_new R w0 w0_ok
  have g0 : (⟨R, [], 0, false⟩ : Dm).files.length ≤ 1000000 := by simp
  have ha0 : (one R w0 [] 0 0 false).arm P = one R w0 [] 0 P false := rfl
  have hz := w0_size
  clear hR q1 q2
  go_enter Try.func6, Try.ntmps6
  go_wp2_with (first
    | (go_at_call 15; with_reducible refine k1.mono ?_; rintro e w1 ⟨po, lo, pc, rfl, x1, b1⟩)
    | (go_at_call 16; with_reducible refine (hwc w1).mono ?_; rintro e v ⟨rfl, rfl⟩)
    | (go_at_call 22; with_reducible refine (new_l R R rfl (by omega) w1).mono ?_; rintro e w2 ⟨rfl, d2, b2⟩)
    | (go_at_call 11; with_reducible refine (open_at d2 w0 _ [] 0 rfl e0 g0 hz).mono ?_; rintro e w3 ⟨lg, mo, mc, rfl, W3, b3⟩; have B3 := b2.trans b3)
    | (go_at_call 16; with_reducible refine (hwa w3).mono ?_; rintro e v ⟨rfl, rfl⟩)
    | (go_at_call 12; with_reducible refine (arm_wd W3 B3 P (by omega) (by omega)).mono ?_; rintro e w4 ⟨rfl, W4⟩))
  rw [ha0] at W4
  clear k1 hwc hwa e0 g0 d2 W3
  have hlo := x1.len_eq
  have hpc := x1.le
  have hpt := x1.top
  have hpt' := hpt
  unfold maxLen at hpt'
  go_loopw [13, 14, 15, 16] (fun dv i _ _ wr => ∃ (k n : Nat) (done : List (List Ent)) (bo : Option Addr) (cb : Nat) (X : List Int) (left : Int) (dn : Bool), k ≤ lo ∧ i = .int .i64 k ∧ dv = .slice bo n cb ∧ Hid (n = done.length) ∧ n ≤ k ∧ Wd w1 wr lg w1.heap.size n (one R w0 X 0 left dn) (.slice bo n cb) done ∧ Ref X left dn done ∧ Fine done ∧ (∀ es ∈ done, es.length ≤ 8191)) (fun _ i _ _ _ => lo - (intOf i).toNat)
  case atStart => exact ⟨0, 0, [], none, 0, [], P, false, by omega, rfl, rfl, rfl, by omega, W4, ⟨fun _ => rfl, fun h => (by cases h)⟩, Fine.nil, by simp⟩
  case round =>
    obtain ⟨k, n, done, bo, cb, X, left, dn, hk, rfl, rfl, hn, hnk, Wr, hrf, hfd, hsd⟩ := hrel
    have hb := Wr.below
    by_cases hk2 : k < lo
    · obtain ⟨b, off, rfl, hc⟩ := x1.headL (by omega)
      have hxk : L[k]? = some (L[k]'(by omega)) := by simp
      obtain ⟨eo, el, ec, c1, t1⟩ := hc k _ hxk
      have hfx := f2 _ (List.getElem_mem (show k < L.length by omega))
      have hsx := f3 _ (List.getElem_mem (show k < L.length by omega))
      generalize L[k]'(by omega) = x at t1 hfx hsx
      clear hxk hc
      obtain ⟨X', left', dn', r, happ, hcase⟩ := ref_add R X left dn done x hrf
      have hf1 : Fine [x] := fun es he => by simp at he; subst he; exact hfx
      have hlx := rowB_length [x] hf1
      simp only [List.length_singleton, Nat.mul_one] at hlx
      have hlaid := laid_any (some ⟨b, off + k, none⟩) 1 (pc - k) [x] wr (lx_at (cell_later hb c1) (t1.later RE.stable hb) (by omega) (by omega)) hf1 (by omega)
      have hkc : k + 1 ≤ pc := by omega
      have hadd := fun (V : World) (hV : Below wr.heap.size wr V) (c' : Nat) (hc' : c' = if r = 0 then n + 1 else n) => wd_add (Wr.later hV) eo el ec x ((t1.later RE.stable hb).later RE.stable hV) hfx _ r c' happ hc' (one_files _ _ _ _) (by omega)
      clear happ
      rcases hcase with ⟨rfl, hrf'⟩ | ⟨rfl, hrf', hno⟩
      · have hmo := hn.out
        subst hmo
        have hfd' := hfd.app hf1
        have hsd' : ∀ es ∈ done ++ [x], es.length ≤ 8191 := fun es he => by
          rcases List.mem_append.1 he with h | h
          · exact hsd es h
          · simp at h; subst h; exact hsx
        have hR1 : ∀ V S, R1 w1 V S [.slice eo el ec] x := fun _ _ => ⟨eo, el, ec, rfl, t1⟩
        have hdl : Hid (done.length + 1 = (done ++ [x]).length) := by show _ = _; simp
        have c1r := cell_later hb c1
        clear hrf
        go_wp2_with (first
          | (go_at_call 8; with_reducible refine hlaid.mono ?_; rintro e w5 ⟨so, sl, sc, rfl, t5, b5⟩; have c5 := cell_later b5 c1r)
          | (go_at_call 18; with_reducible refine (hadd w5 b5 (done.length + 1) rfl).mono ?_; rintro e w6 ⟨rfl, W6⟩; have c6 := cell_later W6.below c1; have hls := W6.ls.later (R1.st w1) (show Below w6.heap.size w6 (w6.alloc (.cells #[.slice eo el ec] 25)) from (Below.refl _ _).alloc (Nat.le_refl _) _); have hB9 : w1.heap.size ≤ (w6.alloc (.cells #[.slice eo el ec] 25)).heap.size := (by have := W6.below.size; simp; omega))
          | (with_reducible show wpList _ _ _ (⟨some 81, _, _, _, _, _⟩ :: _) _ _; refine wpList_one (R1.st w1) (R1.pl w1) Try.underlying26 Try.info25 rfl (by omega) (by omega) rfl _ _ rfl w1.heap.size (.slice bo done.length cb) done rfl hls ⟨w6.heap.size, 0, none⟩ 1 [.slice eo el ec] x rfl (lx_cell_one w6 _ 25) (hR1 _ _) (by omega) hB9 ?_; intro ao7 n7 c7 w7 hn7 hls7 hof7 hsub7; subst hn7; have W7 := W6.app hof7 hls7 hsub7; have G7 := W7.log)
          | (go_at_call 25; with_reducible refine (count_any _ _ _ _ w7 G7).mono ?_; rintro e v ⟨rfl, rfl⟩)
          | (go_at_call 18; with_reducible refine (add_bare lg w7).mono ?_; rintro e w8 ⟨rfl, b8⟩))
        go_roundw
        case rel => exact ⟨k + 1, done.length + 1, done ++ [x], ao7, c7, X', left', dn', by omega, by go_num, rfl, hdl, by omega, W7.later b8, hrf', hfd', hsd'⟩
        case measure => simp [intOf]; omega
      · have c1r := cell_later hb c1
        clear hrf
        rcases hno with rfl | ⟨rfl, hfull⟩
        · go_wp2_with (first
            | (go_at_call 8; with_reducible refine hlaid.mono ?_; rintro e w5 ⟨so, sl, sc, rfl, t5, b5⟩; have c5 := cell_later b5 c1r)
            | (go_at_call 18; with_reducible refine (hadd w5 b5 n rfl).mono ?_; rintro e w6 ⟨rfl, W6⟩; have G6 := W6.log)
            | (go_at_call 23; with_reducible refine (down_l W6.dl true rfl).mono ?_; rintro e v ⟨rfl, rfl⟩)
            | (go_at_call 25; with_reducible refine (count_any _ _ _ _ w6 G6).mono ?_; rintro e v ⟨rfl, rfl⟩)
            | (go_at_call 18; with_reducible refine (add_bare lg w6).mono ?_; rintro e w8 ⟨rfl, b8⟩))
          go_roundw
          case rel => exact ⟨k + 1, n, done, bo, cb, X', left', true, by omega, by go_num, rfl, hn, by omega, W6.later b8, hrf', hfd, hsd⟩
          case measure => simp [intOf]; omega
        · go_wp2_with (first
            | (go_at_call 8; with_reducible refine hlaid.mono ?_; rintro e w5 ⟨so, sl, sc, rfl, t5, b5⟩; have c5 := cell_later b5 c1r; have hno : ¬ ((X'.length : Int) + (sl : Int) ≤ (R : Int)) := (by have := t5.len_eq; omega); have hsl : sl ≤ 1006 := (by have := t5.len_eq; omega))
            | (go_at_call 18; with_reducible refine (hadd w5 b5 n rfl).mono ?_; rintro e w6 ⟨rfl, W6⟩; have G6 := W6.log; have hro := W6.room_one)
            | (go_at_call 23; with_reducible refine (down_l W6.dl false rfl).mono ?_; rintro e v ⟨rfl, rfl⟩)
            | (go_at_call 24; with_reducible refine (used_l W6.dl X'.length (one_used _ _ _ _) (one_files _ _ _ _)).mono ?_; rintro e w7 ⟨rfl, d7, b7⟩; have W7 := W6.later b7; have G7 := W7.log)
            | (go_at_call 25; with_reducible refine (count_any _ _ _ _ w7 G7).mono ?_; rintro e v ⟨rfl, rfl⟩)
            | (go_at_call 18; with_reducible refine (add_bare lg w7).mono ?_; rintro e w8 ⟨rfl, b8⟩))
          go_roundw
          case rel => exact ⟨k + 1, n, done, bo, cb, X', left', false, by omega, by go_num, rfl, hn, by omega, W7.later b8, hrf', hfd, hsd⟩
          case measure => simp [intOf]; omega
    · have K6 := Wr.dl
      have hls := Wr.list
      have hcn := hls.le
      cases dn with
      | true =>
        have hcr := crash_none R X left true
        have hvoid := fun V => hls.void V
        have hcf : ((one R w0 X 0 left true).crash 0).files.length ≤ 1000000 := by rw [hcr]; exact one_files _ _ _ _
        have hop : openM ((one R w0 X 0 left true).crash 0) w0 = (one R w0 (rowB []) 0 0 false, normB [], 0) := by rw [hcr]; exact open_whole R w0 [] Fine.nil 0 0 false
        have hof := one_files R X left true
        generalize hDX : one R w0 X 0 left true = DX at K6 hcf hop hof
        have hdn : DX.down = true := by rw [← hDX]; rfl
        clear hDX hcr
        go_wp2_with (first
          | (go_at_call 23; with_reducible refine (down_l K6 true hdn).mono ?_; rintro e v ⟨rfl, rfl⟩)
          | (go_at_call 20; with_reducible refine (crash_l K6 0 hof (by omega) (by omega)).mono ?_; rintro e w7 ⟨rfl, K7, d7⟩)
          | (go_at_call 11; with_reducible refine (open_at K7 w0 _ (normB []) 0 rfl hop hcf hz).mono ?_; rintro e w8 ⟨lg8, mo8, mc8, rfl, W8, d8⟩; have B8 := (hb.trans d7).trans d8)
          | (go_at_call 21; with_reducible refine (same_yes mo8 bo 0 mc8 0 cb (normB []) [] w8 W8.list (hvoid w8) (by omega) (sameB_norm []) (by simp [normB])).mono ?_; rintro e w14 ⟨rfl, b14⟩; have B14 := B8.trans (b14.mono B8.size))
          | (go_at_call 14; with_reducible refine (known_any w14).mono ?_; rintro e w15 ⟨rfl, b15⟩))
        go_ret
        have B15 := B14.trans (b15.mono B14.size)
        exact ⟨rfl, b1.trans (B15.mono b1.size)⟩
      | false =>
        have hX := hrf.1 rfl
        subst hX
        go_wp2_with (first
          | (go_at_call 23; with_reducible refine (down_l K6 false rfl).mono ?_; rintro e v ⟨rfl, rfl⟩)
          | (go_at_call 11; with_reducible refine (open_rowB R w0 done 0 left false K6 hfd hz n hn.out.symm).mono ?_; rintro e w8 ⟨lg8, mo8, mc8, rfl, W8, d8⟩; have B8 := hb.trans (d8.mono hb.size))
          | (go_at_call 21; with_reducible refine (same_yes mo8 bo n mc8 n cb (normB done) done w8 W8.list (hls.later RL.stable d8) (by omega) (sameB_norm done) (normB_small hsd)).mono ?_; rintro e w14 ⟨rfl, b14⟩; have B14 := B8.trans (b14.mono B8.size))
          | (go_at_call 14; with_reducible refine (known_any w14).mono ?_; rintro e w15 ⟨rfl, b15⟩))
        go_ret
        have B15 := B14.trans (b15.mono B14.size)
        exact ⟨rfl, b1.trans (B15.mono b1.size)⟩

end Go.Proofs.Ytkbhhidmndhnoaa
