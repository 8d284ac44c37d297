/- The walk of FrameApart: unlike batches have unlike bytes; a record is read whatever follows it. -/
import Derived.Test.YtondfbjldonogaaKnown
import Derived.Test.YtondfbjldonogaaWalksI
namespace Go.Proofs.Ytondfbjldonogaa
open Go.RowKit Go.Sort

theorem cutE_fits (k v : Nat) (e : Ent) (h1 : k ≤ 255) (h2 : v ≤ 4095) : fitsE (cutE k v e) = true := by
  rw [fitsE_iff]
  unfold cutE
  simp only
  refine ⟨?_, ?_, ?_⟩
  · split
    · simp
    · omega
  · split
    · simp
    · simp; omega
  · cases e.g with
    | true => simp
    | false => simp; omega
theorem keep_may (n k v : Nat) (l : List Ent) (h0 : n ≤ 8191) (h1 : k ≤ 255) (h2 : v ≤ 4095) : mayL (keepL n k v l) = true := by
  rw [mayL_iff]
  refine ⟨by simp [keepL]; omega, fun e he => ?_⟩
  obtain ⟨x, _, rfl⟩ := List.mem_map.1 he
  exact cutE_fits k v x h1 h2
theorem keep_short (n k v : Nat) (l : List Ent) (h0 : n ≤ 100) (h1 : k ≤ 255) (h2 : v ≤ 4095) : (batchL (keepL n k v l)).length ≤ 500000 := by
  have hm := keep_may n k v l (by omega) h1 h2
  have := flat_length _ ((mayL_iff _).1 hm).2
  have hl : (keepL n k v l).length ≤ n := by simp [keepL]; omega
  simp only [batchL, List.length_append, length_low]; omega

theorem own_empty' (w : World) : Gr w.heap.size (w.alloc (.cells #[] 5)) (some ⟨w.heap.size, 0, none⟩) 0 0 [] := ⟨own_empty w, by simp, by simp⟩

theorem fall_at (ao : Option Addr) (la ca : Nat) (xs : List Int) (w : World) (ha : Tx w ao la ca xs) (sa : la ≤ 900000000) {L : List (List Int)} {NN : Nat} {ok : Bool} (hall : allL xs = (L, NN, ok)) :
    Calls Try.prog 22 #[.slice ao la ca] w fun e w' => ∃ bo lb cb EE, e = .returned (.tuple #[.slice bo lb cb, .int .i64 NN, .int .i64 EE]) ∧ Lx 1 RB w' bo lb cb L ∧ Below w.heap.size w w' := by
  refine (fall_any ao la ca xs w ha sa).mono ?_
  rintro e w' ⟨bo, lb, cb, rfl, hx, hb⟩
  rw [hall] at hx ⊢
  exact ⟨bo, lb, cb, _, rfl, hx, hb⟩

set_option maxHeartbeats 4000000 in
set_option maxRecDepth 100000 in
theorem apart_walk (ao : Option Addr) (la ca : Nat) (l : List Ent) (bo : Option Addr) (lb cb : Nat) (m : List Ent) (co : Option Addr) (lc cc : Nat) (xs : List Int) (w : World) (hl : Lx 3 RE w ao la ca l) (hm : Lx 3 RE w bo lb cb m) (hx : Tx w co lc cc xs) :
    Calls Try.prog 7 #[.slice ao la ca, .slice bo lb cb, .slice co lc cc] w fun e w' => e = .returned (.bool true) ∧ Below w.heap.size w w' := by
  have mp := keep_may 8 20 30 l (by omega) (by omega) (by omega)
  have mq := keep_may 8 20 30 m (by omega) (by omega) (by omega)
  have sp := keep_short 8 20 30 l (by omega) (by omega) (by omega)
  have lp : (keepL 8 20 30 l).length ≤ 8 := by simp [keepL]; omega
  have lq : (keepL 8 20 30 m).length ≤ 8 := by simp [keepL]; omega
  have hinj := batch_inj _ _ mp mq
  have k1 := fun V (h : Below w.heap.size w V) => keep_any ao la ca l 8 20 30 8 20 30 rfl rfl rfl (by omega) (by omega) (by omega) V (hl.later RE.stable h)
  have k2 := fun V (h : Below w.heap.size w V) => keep_any bo lb cb m 8 20 30 8 20 30 rfl rfl rfl (by omega) (by omega) (by omega) V (hm.later RE.stable h)
  generalize keepL 8 20 30 l = p at mp sp lp hinj k1
  generalize keepL 8 20 30 m = q at mq lq hinj k2
  clear hl hm
  go_enter Try.func7, Try.ntmps7
  go_wp2_with (first
    | (go_at_call 21; with_reducible refine (k1 w (Below.refl _ _)).mono ?_; rintro e w1 ⟨po, lo, pc, rfl, x1, b1⟩; clear k1)
    | (go_at_call 21; with_reducible refine (k2 w1 b1).mono ?_; rintro e w2 ⟨qo, lr, qc, rfl, x2, b2⟩; have B2 := b1.trans (b2.mono b1.size); have x1 := x1.later RE.stable b2; have hlo := x1.len_eq; have hlr := x2.len_eq; clear k2)
    | (go_at_call 24; with_reducible refine (fbatch_yes po lo pc p w2 x1 mp).mono ?_; rintro e w3 ⟨ro, rl, rc, rfl, t3, b3⟩; have B3 := B2.trans (b3.mono B2.size); have x1 := x1.later RE.stable b3; have x2 := x2.later RE.stable b3)
    | (go_at_call 24; with_reducible refine (fbatch_yes qo lr qc q w3 x2 mq).mono ?_; rintro e w4 ⟨so, sl, sc, rfl, t4, b4⟩; have B4 := B3.trans (b4.mono B3.size); have x1 := x1.later RE.stable b4; have x2 := x2.later RE.stable b4; have t3 := t3.later b4))
  have s3 := fun d os => (t3.later (below_regrown w4 d os)).string
  have s4 := fun d os => (t4.later (below_regrown w4 d os)).string
  have HS : ∀ d os, Calls Try.prog 26 #[.slice po lo pc, .slice qo lr qc] (grow (redrawn w4 d) os) fun e w' => e = .returned (.bool (sameL p q)) ∧ Below (grow (redrawn w4 d) os).heap.size (grow (redrawn w4 d) os) w' := fun d os => same8_any po qo lo pc lr qc p q _ (x1.later RE.stable (below_regrown w4 d os)) (x2.later RE.stable (below_regrown w4 d os)) (by omega) (by omega)
  have rp := t3.rng
  have rq := t4.rng
  have hX := t3.len_eq
  rw [hX] at sp
  clear x1 x2 t4 hlo hlr lp lq mp mq
  generalize batchL p = X at t3 s3 hinj rp hX
  generalize batchL q = Y at s4 hinj rq
  generalize sameL p q = F at HS hinj
  obtain ⟨R, NN, ok, hall, hNN⟩ : ∃ R NN ok, allL (recL X ++ xs.take 30) = (X :: R, NN, ok) ∧ rl + 6 ≤ NN := ⟨_, _, _, allL_rec X (by omega) (xs.take 30), by omega⟩
  cases F with
  | true =>
    have e := hinj.2 rfl
    subst e
    generalize strOfNums X = SX at s3 s4
    clear rp rq hinj
    refine wp_region_quiet_below (by kernel_rfl) (by kernel_rfl) ?_
    repeat (go_big_quiet_step (first | (go_at_call 26; with_reducible exact Calls.regrown_of (HS _ _))))
    (with_reducible refine wpQuiet_nil ?_)
    intro _ hw'
    obtain ⟨⟨dq, osq⟩, hw''⟩ := hw'
    subst hw''
    have b5 := below_regrown w4 dq osq
    generalize grow (redrawn w4 dq) osq = w5 at b5 ⊢
    have B5 := B4.trans (b5.mono B4.size)
    have t5 := t3.later b5
    have hput := fput_any none ro 0 0 rl rc [] X w5 (Tx.nil _) t5 (by omega) (by omega)
    rw [List.nil_append] at hput
    have hrl : (recL X).length = rl + 6 := by rw [length_recL, hX]
    clear HS s4 t3
    go_wp2_with (first
      | (go_at_call 13; with_reducible refine hput.mono ?_; rintro e w6 ⟨zo, lz, zc, rfl, t6, b6⟩; have B6 := B5.trans (b6.mono B5.size); have hlz := t6.len_eq; have hlz1 : lz ≤ rl + 6 := (by omega); have hlz2 : rl + 6 ≤ lz := (by omega); have hlz3 : ((lz : Int) != (rl : Int) + 6) = false := (by simp; omega); clear hlz; have g0 := own_empty' w6; have t6' := t6.alloc (.cells #[] 5); have bz : Below w6.heap.size w6 (w6.alloc (.cells #[] 5)) := (Below.refl _ _).alloc (Nat.le_refl _) _)
      | (with_reducible show wpList _ _ _ (⟨some 67, _, _, _, _, _⟩ :: _) _ _; refine wpList_gr rfl _ _ rfl w6.heap.size (some ⟨w6.heap.size, 0, none⟩) 0 0 [] rfl g0 zo lz zc (recL X) rfl t6' (by omega) ?_; intro a7 n7 c7 w7 hl7 g7 m7; rw [List.nil_append] at g7; have b7 := bz.trans (m7.below g0); have B7 := B6.trans (b7.mono B6.size); have hn7 : n7 ≤ 600000 := (by have := hl7.out; omega))
      | (go_at_call 17; with_reducible refine (cut_at co lc cc 30 30 xs w7 rfl (hx.later B7) (by omega)).mono ?_; rintro e w8 ⟨l8, rfl, hl8, t8, rfl⟩)
      | (with_reducible show wpList _ _ _ (⟨some 70, _, _, _, _, _⟩ :: _) _ _; refine wpList_gr rfl _ _ rfl w6.heap.size a7 n7 c7 (recL X) rfl g7 co l8 cc (xs.take 30) rfl t8 (by omega) ?_; intro a9 n9 c9 w9 hl9 g9 m9; have b9 := b7.trans (m9.below g7); have B9 := B6.trans (b9.mono B6.size); have hn9 : n9 ≤ 700000 := (by have := hl9.out; omega); have hal := fall_at a9 n9 c9 _ w9 g9.tx (by omega) hall)
      | (go_at_call 22; with_reducible refine hal.mono ?_; rintro e w10 ⟨fo, fl, fc, EE, rfl, x10, b10⟩; have B10 := B9.trans (b10.mono B9.size); have hfl := x10.len_eq))
    simp only [List.length_cons] at hfl
    obtain ⟨fb, fof, rfl, hc10⟩ := x10.headB (by omega)
    obtain ⟨ho, hl, hcc, c10, t10⟩ := hc10 0 X rfl
    have t11 := (t5.later b6).later (b9.trans (b10.mono b9.size))
    rw [Nat.add_zero] at c10
    have hfl1 : (1 : Int) ≤ (fl : Int) := by omega
    have hge : ((lz : Nat) : Int) ≤ (NN : Int) := by omega
    have c10 := fun d os => cell_regrown c10 d os
    have s10 := fun d os => (t10.later (below_regrown w10 d os)).string
    have s11 := fun d os => (t11.later (below_regrown w10 d os)).string
    have HK : ∀ d os, Calls Try.prog 14 #[] (grow (redrawn w10 d) os) fun e w' => e = .returned (.bool true) ∧ Below (grow (redrawn w10 d) os).heap.size (grow (redrawn w10 d) os) w' := fun d os => known_any _
    generalize strOfNums X = SZ at s10 s11
    refine wp_region_quiet_below (by kernel_rfl) (by kernel_rfl) ?_
    repeat (go_big_quiet_step (first | (go_at_call 14; with_reducible exact Calls.regrown_of (HK _ _))))
    (with_reducible refine wpQuiet_nil ?_)
    intro _ hw'
    obtain ⟨⟨dr, osr⟩, hw''⟩ := hw'
    subst hw''
    go_wp2
    go_ret
    exact ⟨rfl, B10.trans ((below_regrown w10 dr osr).mono B10.size)⟩
  | false =>
    have hne := str_ne rp rq (fun e => by have := hinj.1 e; cases this)
    generalize strOfNums X = SX at s3 hne
    generalize strOfNums Y = SY at s4 hne
    have hne2 : (SX.toList == SY.toList) = false := by simp [hne]
    clear rp rq hinj
    refine wp_region_quiet_below (by kernel_rfl) (by kernel_rfl) ?_
    repeat (go_big_quiet_step (first | (go_at_call 26; with_reducible exact Calls.regrown_of (HS _ _))))
    (with_reducible refine wpQuiet_nil ?_)
    intro _ hw'
    obtain ⟨⟨dq, osq⟩, hw''⟩ := hw'
    subst hw''
    have b5 := below_regrown w4 dq osq
    generalize grow (redrawn w4 dq) osq = w5 at b5 ⊢
    have B5 := B4.trans (b5.mono B4.size)
    have t5 := t3.later b5
    have hput := fput_any none ro 0 0 rl rc [] X w5 (Tx.nil _) t5 (by omega) (by omega)
    rw [List.nil_append] at hput
    have hrl : (recL X).length = rl + 6 := by rw [length_recL, hX]
    clear HS s4 t3
    go_wp2_with (first
      | (go_at_call 13; with_reducible refine hput.mono ?_; rintro e w6 ⟨zo, lz, zc, rfl, t6, b6⟩; have B6 := B5.trans (b6.mono B5.size); have hlz := t6.len_eq; have hlz1 : lz ≤ rl + 6 := (by omega); have hlz2 : rl + 6 ≤ lz := (by omega); have hlz3 : ((lz : Int) != (rl : Int) + 6) = false := (by simp; omega); clear hlz; have g0 := own_empty' w6; have t6' := t6.alloc (.cells #[] 5); have bz : Below w6.heap.size w6 (w6.alloc (.cells #[] 5)) := (Below.refl _ _).alloc (Nat.le_refl _) _)
      | (with_reducible show wpList _ _ _ (⟨some 67, _, _, _, _, _⟩ :: _) _ _; refine wpList_gr rfl _ _ rfl w6.heap.size (some ⟨w6.heap.size, 0, none⟩) 0 0 [] rfl g0 zo lz zc (recL X) rfl t6' (by omega) ?_; intro a7 n7 c7 w7 hl7 g7 m7; rw [List.nil_append] at g7; have b7 := bz.trans (m7.below g0); have B7 := B6.trans (b7.mono B6.size); have hn7 : n7 ≤ 600000 := (by have := hl7.out; omega))
      | (go_at_call 17; with_reducible refine (cut_at co lc cc 30 30 xs w7 rfl (hx.later B7) (by omega)).mono ?_; rintro e w8 ⟨l8, rfl, hl8, t8, rfl⟩)
      | (with_reducible show wpList _ _ _ (⟨some 70, _, _, _, _, _⟩ :: _) _ _; refine wpList_gr rfl _ _ rfl w6.heap.size a7 n7 c7 (recL X) rfl g7 co l8 cc (xs.take 30) rfl t8 (by omega) ?_; intro a9 n9 c9 w9 hl9 g9 m9; have b9 := b7.trans (m9.below g7); have B9 := B6.trans (b9.mono B6.size); have hn9 : n9 ≤ 700000 := (by have := hl9.out; omega); have hal := fall_at a9 n9 c9 _ w9 g9.tx (by omega) hall)
      | (go_at_call 22; with_reducible refine hal.mono ?_; rintro e w10 ⟨fo, fl, fc, EE, rfl, x10, b10⟩; have B10 := B9.trans (b10.mono B9.size); have hfl := x10.len_eq))
    simp only [List.length_cons] at hfl
    obtain ⟨fb, fof, rfl, hc10⟩ := x10.headB (by omega)
    obtain ⟨ho, hl, hcc, c10, t10⟩ := hc10 0 X rfl
    have t11 := (t5.later b6).later (b9.trans (b10.mono b9.size))
    rw [Nat.add_zero] at c10
    have hfl1 : (1 : Int) ≤ (fl : Int) := by omega
    have hge : ((lz : Nat) : Int) ≤ (NN : Int) := by omega
    have c10 := fun d os => cell_regrown c10 d os
    have s10 := fun d os => (t10.later (below_regrown w10 d os)).string
    have s11 := fun d os => (t11.later (below_regrown w10 d os)).string
    have HK : ∀ d os, Calls Try.prog 14 #[] (grow (redrawn w10 d) os) fun e w' => e = .returned (.bool true) ∧ Below (grow (redrawn w10 d) os).heap.size (grow (redrawn w10 d) os) w' := fun d os => known_any _
    generalize strOfNums X = SZ at s10 s11
    refine wp_region_quiet_below (by kernel_rfl) (by kernel_rfl) ?_
    repeat (go_big_quiet_step (first | (go_at_call 14; with_reducible exact Calls.regrown_of (HK _ _))))
    (with_reducible refine wpQuiet_nil ?_)
    intro _ hw'
    obtain ⟨⟨dr, osr⟩, hw''⟩ := hw'
    subst hw''
    go_wp2
    go_ret
    exact ⟨rfl, B10.trans ((below_regrown w10 dr osr).mono B10.size)⟩

end Go.Proofs.Ytondfbjldonogaa
