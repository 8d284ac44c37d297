/- The walk of the statements' own opens where all is well. -/
import Derived.Test.YtkbhhidmndhnoaaWOpens
namespace Go.Proofs.Ytkbhhidmndhnoaa
open Go.RowKit Go.Sort

set_option maxHeartbeats 4000000 in
set_option maxRecDepth 100000 in
theorem opens_good (ao : Option Addr) (la ca : Nat) (xs : List Int) (w : World) (ha : Tx w ao la ca xs) (sa : la ≤ 16777216) (recs : List (List Int)) (n : Nat) (hA : allL xs = (recs, n, true)) (ess : List (List Ent)) (hD : decL recs = some ess) :
    Calls Try.prog 9 #[.slice ao la ca] w fun e w' => e = .returned (.bool true) ∧ Below w.heap.size w w' := by
  have hon := on_any w7 w7_ok ao la ca xs w ha sa
  have hE := open_one 16777216 w7 xs xs.length rfl recs n true hA
  simp only [Bool.true_eq_false, if_false, hD] at hE
  have hf : (one 16777216 w7 xs xs.length 0 false).files.length ≤ 1000000 := by simp [one]
  have hall := fun (V : World) (t : Tx V ao la ca xs) => rall_at ao la ca xs V t (by omega) recs n true hA
  have hl := ha.len_eq
  have hle := ha.le
  have htop := ha.top
  unfold maxLen at htop
  obtain ⟨hs1, hs2, hs3⟩ := allL_small _ xs (Nat.le_refl _)
  rw [hA] at hs1 hs2 hs3
  simp only at hs1 hs2 hs3
  have hel0 := decL_len recs ess hD
  have hsm := decL_small recs ess hD
  have hz := w7_size
  have hx : rd (one 16777216 w7 (xs.take n) n 0 false).files w7 = xs.take n := by simp [one, rd, get]
  have hg : (get (one 16777216 w7 (xs.take n) n 0 false).files w7).isSome = true := by simp [one, get]
  have hy : sy (one 16777216 w7 (xs.take n) n 0 false).files w7 = n := by simp [one, sy, get]
  have hf2 : (one 16777216 w7 (xs.take n) n 0 false).files.length ≤ 1000000 := by simp [one]
  generalize (one 16777216 w7 xs xs.length 0 false) = D at hon hE hf
  generalize (one 16777216 w7 (xs.take n) n 0 false) = D2 at hE hx hg hy hf2
  go_enter Try.func9, Try.ntmps9
  go_wp2_with (first
    | (go_at_call 29; with_reducible refine hon.mono ?_; rintro e w1 ⟨pb, rfl, d1, b1⟩)
    | (go_at_call 11; with_reducible refine (open_at d1 w7 D2 ess recs.length hel0 hE hf hz).mono ?_; rintro e w2 ⟨lg, mo, mc, rfl, W2, b2⟩; have B2 := b1.trans b2; have t2 := ha.later B2)
    | (go_at_call 30; with_reducible refine (hall w2 t2).mono ?_; rintro e w3 ⟨ro, rc, rfl, l3, b3⟩; have W3 := W2.later b3; have B3 := B2.trans (b3.mono B2.size)))
  clear hon hE hall t2 d1 W2
  have fin : ∀ (V : World) (bo : Option Addr) (cb : Nat), Below w3.heap.size w3 V → Lx 1 RL V bo recs.length cb ess → True := fun _ _ _ _ _ => trivial
  go_loopw [12, 13, 14, 15] (fun o i _ _ wr => ∃ (k m : Nat) (bo : Option Addr) (cb : Nat) (out : List (List Ent)), k ≤ recs.length ∧ i = .int .i64 k ∧ o = .slice bo m cb ∧ Hid (m = out.length) ∧ Hid (m = k) ∧ Hid (decL (recs.take k) = some out) ∧ Ls 25 1 (Rx (List.range w3.heap.size) RL) wr w3.heap.size (.slice bo m cb) out ∧ Below w3.heap.size w3 wr) (fun _ i _ _ _ => recs.length - (intOf i).toNat)
  case atStart => exact ⟨0, 0, none, 0, [], by omega, rfl, rfl, rfl, rfl, rfl, Ls.nil _ _ _ _ _, Below.refl _ _⟩
  case round =>
    obtain ⟨k, m, bo, cb, out, hk, rfl, rfl, hm, hmk, hd, hls, hb⟩ := hrel
    by_cases hk2 : k < recs.length
    · obtain ⟨b, off, rfl, hc⟩ := l3.headB (by omega)
      have hxk : recs[k]? = some (recs[k]'hk2) := by simp
      obtain ⟨eo, el, ec, c1, t1⟩ := hc k _ hxk
      have hel := hs1 _ (List.getElem_mem hk2)
      have hsuc : recs.take (k + 1) = recs.take k ++ [recs[k]'hk2] := List.take_succ_eq_append_getElem hk2
      have htl := t1.len_eq
      have c1 := cell_later hb c1
      have t1 := t1.later hb
      generalize recs[k]'hk2 = x at hxk t1 hel hsuc htl
      cases hp : entriesL x with
      | none => rw [decL_bad recs k x hxk hp] at hD; cases hD
      | some es =>
        have hyes := rents_yes eo el ec x wr t1 (by omega) es hp
        have hd2 : Hid (decL (recs.take (k + 1)) = some (out ++ [es])) := by show _ = _; rw [hsuc]; exact decL_snoc _ _ _ _ hd.out hp
        clear hsuc
        have hmo := hm.out
        subst hmo
        have hlk : out.length = k := hmk.out
        have hol : Hid (out.length + 1 = (out ++ [es]).length) := by show _ = _; simp
        have hok : Hid (out.length + 1 = k + 1) := by show _ = _; omega
        have hout : out.length ≤ 900000000 := by omega
        clear hlk hD hel0
        go_wp2_with (first | (go_at_call 31; with_reducible refine hyes.mono ?_; rintro e V ⟨qo, lq, cq, rfl, tV, bV⟩; have hr1 := rl_new hls tV hb.size (.cells #[.slice qo lq cq] 25); have hl2 := ls_later hls bV (.cells #[.slice qo lq cq] 25); have hB9 : w3.heap.size ≤ (V.alloc (.cells #[.slice qo lq cq] 25)).heap.size := (by have := hb.size; have := bV.size; simp; omega)) | (with_reducible show wpList _ _ _ (⟨some 89, _, _, _, _, _⟩ :: _) _ _; refine wpList_one (Rx.st _ RL.stable) (Rx.pl _ RL.plain) Try.underlying26 Try.info25 rfl (by omega) (by omega) rfl _ _ rfl w3.heap.size (.slice bo out.length cb) out rfl hl2 ⟨V.heap.size, 0, none⟩ 1 [.slice qo lq cq] es rfl (lx_cell_one V _ 25) hr1 (by omega) hB9 ?_; intro ao5 n5 c5 w5 hn5 hls5 hof5 hsub5; subst hn5))
        go_roundw
        case rel => exact ⟨k + 1, out.length + 1, ao5, c5, out ++ [es], by omega, by go_num, rfl, hol, hok, hd2, hls5, ls_below hls hb bV hof5⟩
        case measure => simp [intOf]; omega
    · have hkl : k = recs.length := by omega
      have hdo : out = ess := by
        have := hd.out
        rw [hkl, List.take_of_length_le (by omega), hD] at this
        exact (Option.some.inj this).symm
      subst hdo
      have hmr : m = recs.length := by have := hmk.out; omega
      subst hmr
      have lw : Lx 1 RL wr bo recs.length cb out := (hls.lv RL.stable RL.plain (by simp)).read RL.stable
      have Wr := W3.later hb
      have Br := B3.trans (hb.mono B3.size)
      clear hls hd hm hmk hkl hD
      go_wp2_with (go_at_call 26; with_reducible refine (read_l Wr.dl w7 (xs.take n) true hx hg hf2).mono ?_; rintro e w5 ⟨xo, lx, cx, rfl, t5, d5, b5⟩; have W5 := Wr.later b5; have l5 := lw.later RL.stable b5; have B5 := Br.trans (b5.mono Br.size))
      clear Wr lw
      have s1 := fun d os => (t5.later (below_regrown w5 d os)).string
      have s2 := fun d os => (((ha.take n (by omega)).later B5).later (below_regrown w5 d os)).string
      have HS : ∀ d os, Calls Try.prog 21 #[.slice mo recs.length mc, .slice bo recs.length cb] (grow (redrawn w5 d) os) fun e w' => e = .returned (.bool true) ∧ Below (grow (redrawn w5 d) os).heap.size (grow (redrawn w5 d) os) w' := fun d os => same_yes mo bo recs.length mc recs.length cb out out _ (W5.list.later RL.stable (below_regrown w5 d os)) (l5.later RL.stable (below_regrown w5 d os)) (by omega) (sameB_refl out) hsm
      have HC : ∀ d os, Calls Try.prog 25 #[.pointer (some ⟨lg, 0, none⟩)] (grow (redrawn w5 d) os) fun e w' => e = .returned (.int .i64 recs.length) ∧ Below (grow (redrawn w5 d) os).heap.size (grow (redrawn w5 d) os) w' := fun d os => (count_any lg pb w7 recs.length _ (W5.log.later (below_regrown w5 d os))).mono fun e w' h => ⟨h.1, by rw [← h.2]; exact Below.refl _ _⟩
      have HY : ∀ d os, Calls Try.prog 32 #[.pointer (some ⟨pb, 0, none⟩), .string w7] (grow (redrawn w5 d) os) fun e w' => e = .returned (.int .i64 n) ∧ Below (grow (redrawn w5 d) os).heap.size (grow (redrawn w5 d) os) w' := fun d os => synced_l (d5.later (below_regrown w5 d os)) w7 n hy hf2
      have hnla : n ≤ la := by omega
      have hnca : n ≤ ca := by omega
      clear W5 l5 hsm t5 d5 hx hg hy hf2 W3 hs1 fin
      generalize strOfNums (xs.take n) = ST at s1 s2
      refine wp_region_quiet_below (by kernel_rfl) (by kernel_rfl) ?_
      repeat (go_big_quiet_step (first | (go_at_call 21; with_reducible exact Calls.regrown_of (HS _ _)) | (go_at_call 25; with_reducible exact Calls.regrown_of (HC _ _)) | (go_at_call 32; with_reducible exact Calls.regrown_of (HY _ _))))
      (with_reducible refine wpQuiet_nil ?_)
      intro _ hw'
      obtain ⟨⟨dq, osq⟩, hw''⟩ := hw'
      subst hw''
      have b6 := below_regrown w5 dq osq
      generalize grow (redrawn w5 dq) osq = w6 at b6 ⊢
      go_wp2
      go_ret
      exact ⟨rfl, B5.trans (b6.mono B5.size)⟩

theorem opens_any (ao : Option Addr) (la ca : Nat) (xs : List Int) (w : World) (ha : Tx w ao la ca xs) (sa : la ≤ 16777216) :
    Calls Try.prog 9 #[.slice ao la ca] w fun e w' => e = .returned (.bool true) ∧ Below w.heap.size w w' := by
  obtain ⟨L, hL⟩ : ∃ L, allL xs = L := ⟨_, rfl⟩
  obtain ⟨recs, n, ok⟩ := L
  cases ok with
  | false => exact opens_bad ao la ca xs w ha sa recs n hL
  | true =>
    cases hD : decL recs with
    | none => exact opens_dec ao la ca xs w ha sa recs n hL hD
    | some ess => exact opens_good ao la ca xs w ha sa recs n hL ess hD

end Go.Proofs.Ytkbhhidmndhnoaa
