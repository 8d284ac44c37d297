/- The walk of the statements' own opens. -/
import Derived.Test.YtkbhhidmndhnoaaWLawB
import Derived.Test.YtkbhhidmndhnoaaFWalksT
namespace Go.Proofs.Ytkbhhidmndhnoaa
open Go.RowKit Go.Sort

abbrev w7 : ByteArray := ⟨#[119, 55]⟩
theorem w7_ok : okName w7 = true := by decide
theorem w7_size : w7.size ≤ 281474976710656 := by decide

theorem synced_l {B : Nat} {w : World} {pb : Nat} {d : Dm} (h : Dl B w pb d) (nm : ByteArray) (n : Nat) (hx : sy d.files nm = n) (hn : d.files.length ≤ 1000000) :
    Calls Try.prog 32 #[.pointer (some ⟨pb, 0, none⟩), .string nm] w fun e w' => e = .returned (.int .i64 n) ∧ Below w.heap.size w w' := by
  obtain ⟨fv, vs, S, K, hS, hB⟩ := h
  refine (synced_any pb d fv vs S nm w K hn).mono ?_
  rintro e w' ⟨rfl, hb⟩
  rw [hx]
  exact ⟨rfl, hb⟩
theorem decL_small : ∀ (l : List (List Int)) (out : List (List Ent)), decL l = some out → ∀ es ∈ out, es.length ≤ 8191
  | [], out, h => by
    simp [decL] at h
    subst h; simp
  | y :: l, out, h => by
    rw [decL] at h
    cases h1 : entriesL y with
    | none => rw [h1] at h; cases h
    | some e1 =>
      rw [h1] at h
      simp only at h
      cases h2 : decL l with
      | none => rw [h2] at h; cases h
      | some r =>
        rw [h2] at h
        simp at h
        subst h
        intro es he
        rcases List.mem_cons.1 he with rfl | he
        · exact entriesL_len h1
        · exact decL_small l r h2 es he

theorem rall_at (ao : Option Addr) (la ca : Nat) (xs : List Int) (w : World) (ha : Tx w ao la ca xs) (sa : la ≤ 900000000) (recs : List (List Int)) (n : Nat) (ok : Bool) (hA : allL xs = (recs, n, ok)) :
    Calls Try.prog 30 #[.slice ao la ca] w fun e w' => ∃ bo cb, e = .returned (.tuple #[.slice bo recs.length cb, .int .i64 n, .bool ok]) ∧ Lx 1 RB w' bo recs.length cb recs ∧ Below w.heap.size w w' := by
  refine (rall_any ao la ca xs w ha sa).mono ?_
  rintro e w' ⟨bo, lb, cb, rfl, l, b⟩
  rw [hA] at l ⊢
  obtain rfl := l.len_eq
  exact ⟨bo, cb, rfl, l, b⟩

theorem opens_bad (ao : Option Addr) (la ca : Nat) (xs : List Int) (w : World) (ha : Tx w ao la ca xs) (sa : la ≤ 16777216) (recs : List (List Int)) (n : Nat) (hA : allL xs = (recs, n, false)) :
    Calls Try.prog 9 #[.slice ao la ca] w fun e w' => e = .returned (.bool true) ∧ Below w.heap.size w w' := by
  have hon := on_any w7 w7_ok ao la ca xs w ha sa
  have hE := open_one 16777216 w7 xs xs.length rfl recs n false hA
  simp only [if_true] at hE
  have hx : rd (one 16777216 w7 xs xs.length 0 false).files w7 = xs := by simp [one, rd, get]
  have hg : (get (one 16777216 w7 xs xs.length 0 false).files w7).isSome = true := by simp [one, get]
  have hf : (one 16777216 w7 xs xs.length 0 false).files.length ≤ 1000000 := by simp [one]
  have hall := fun (V : World) (t : Tx V ao la ca xs) => rall_at ao la ca xs V t (by omega) recs n false hA
  have hz := w7_size
  generalize (one 16777216 w7 xs xs.length 0 false) = D at hon hE hx hg hf
  have hst : Hid (∃ s, strOfNums xs = s) := ⟨_, rfl⟩
  go_enter Try.func9, Try.ntmps9
  go_wp2_with (first
    | (go_at_call 29; with_reducible refine hon.mono ?_; rintro e w1 ⟨pb, rfl, d1, b1⟩)
    | (go_at_call 11; with_reducible refine (open_no d1 w7 D [] 14 (by decide) hE hf hz).mono ?_; rintro e w2 ⟨rfl, d2, b2⟩; have B2 := b1.trans b2; have t2 := ha.later B2)
    | (go_at_call 30; with_reducible refine (hall w2 t2).mono ?_; rintro e w3 ⟨ro, rc, rfl, l3, b3⟩; have d3 := d2.later b3; have B3 := B2.trans (b3.mono B2.size))
    | (go_at_call 26; with_reducible refine (read_l d3 w7 xs true hx hg hf).mono ?_; rintro e w4 ⟨xo, lx, cx, rfl, t4, d4, b4⟩; have B4 := B3.trans (b4.mono B3.size); have s1 := t4.string; have s2 := (ha.later B4).string))
  go_ret
  exact ⟨rfl, B4⟩

/-- What holds at each round's head. -/
theorem rl_more {w3 wr V w5 : World} {v : Value} {out : List (List Ent)} {o : Obj} (hls : Ls 25 1 (Rx (List.range w3.heap.size) RL) wr w3.heap.size v out) (hb : Below w3.heap.size w3 wr) (hV : Below wr.heap.size wr V) (ho : Off (own v) (V.alloc o) w5) : Below w3.heap.size w3 w5 := ls_below hls hb hV ho

set_option maxHeartbeats 2000000 in
set_option maxRecDepth 100000 in
theorem opens_dec (ao : Option Addr) (la ca : Nat) (xs : List Int) (w : World) (ha : Tx w ao la ca xs) (sa : la ≤ 16777216) (recs : List (List Int)) (n : Nat) (hA : allL xs = (recs, n, true)) (hD : decL recs = none) :
    Calls Try.prog 9 #[.slice ao la ca] w fun e w' => e = .returned (.bool true) ∧ Below w.heap.size w w' := by
  have hon := on_any w7 w7_ok ao la ca xs w ha sa
  have hE := open_one 16777216 w7 xs xs.length rfl recs n true hA
  simp only [Bool.true_eq_false, if_false, hD] at hE
  have hf : (one 16777216 w7 xs xs.length 0 false).files.length ≤ 1000000 := by simp [one]
  have hall := fun (V : World) (t : Tx V ao la ca xs) => rall_at ao la ca xs V t (by omega) recs n true hA
  have hl := ha.len_eq
  obtain ⟨hs1, hs2, hs3⟩ := allL_small _ xs (Nat.le_refl _)
  rw [hA] at hs1 hs2 hs3
  simp only at hs1 hs2 hs3
  have hz := w7_size
  generalize (one 16777216 w7 xs xs.length 0 false) = D at hon hE hf
  generalize (one 16777216 w7 (xs.take n) n 0 false) = D2 at hE
  go_enter Try.func9, Try.ntmps9
  go_wp2_with (first
    | (go_at_call 29; with_reducible refine hon.mono ?_; rintro e w1 ⟨pb, rfl, d1, b1⟩)
    | (go_at_call 11; with_reducible refine (open_no d1 w7 D2 [] 14 (by decide) hE hf hz).mono ?_; rintro e w2 ⟨rfl, d2, b2⟩; have B2 := b1.trans b2; have t2 := ha.later B2)
    | (go_at_call 30; with_reducible refine (hall w2 t2).mono ?_; rintro e w3 ⟨ro, rc, rfl, l3, b3⟩; have B3 := B2.trans (b3.mono B2.size)))
  clear hon hE hall t2 d1 d2
  have h0 : 0 < recs.length := by
    cases recs with
    | nil => simp [decL] at hD
    | cons a b => simp
  obtain ⟨b, off, rfl, hc⟩ := l3.headB h0
  go_loopw [12, 13, 14, 15] (fun o i _ _ wr => ∃ (k m : Nat) (bo : Option Addr) (cb : Nat) (out : List (List Ent)), k ≤ recs.length ∧ i = .int .i64 k ∧ o = .slice bo m cb ∧ Hid (m = out.length) ∧ Hid (m = k) ∧ Hid (decL (recs.take k) = some out) ∧ Ls 25 1 (Rx (List.range w3.heap.size) RL) wr w3.heap.size (.slice bo m cb) out ∧ Below w3.heap.size w3 wr) (fun _ i _ _ _ => recs.length - (intOf i).toNat)
  case atStart => exact ⟨0, 0, none, 0, [], by omega, rfl, rfl, rfl, rfl, rfl, Ls.nil _ _ _ _ _, Below.refl _ _⟩
  case round =>
    obtain ⟨k, m, bo, cb, out, hk, rfl, rfl, hm, hmk, hd, hls, hb⟩ := hrel
    by_cases hk2 : k < recs.length
    · have hx : recs[k]? = some (recs[k]'hk2) := by simp
      obtain ⟨eo, el, ec, c1, t1⟩ := hc k _ hx
      have hel := hs1 _ (List.getElem_mem hk2)
      have hsuc : recs.take (k + 1) = recs.take k ++ [recs[k]'hk2] := List.take_succ_eq_append_getElem hk2
      have htl := t1.len_eq
      have c1 := cell_later hb c1
      have t1 := t1.later hb
      generalize recs[k]'hk2 = x at hx t1 hel hsuc htl
      cases hp : entriesL x with
      | none =>
        have hno := rents_nope eo el ec x wr t1 (by omega) hp
        clear hsuc hd
        go_wp2_with (go_at_call 31; with_reducible refine hno.mono ?_; rintro e V ⟨rfl, bV⟩)
        go_ret
        exact ⟨rfl, (B3.trans (hb.mono B3.size)).trans (bV.mono (Nat.le_trans B3.size hb.size))⟩
      | some es =>
        have hyes := rents_yes eo el ec x wr t1 (by omega) es hp
        have hd2 : Hid (decL (recs.take (k + 1)) = some (out ++ [es])) := by show _ = _; rw [hsuc]; exact decL_snoc _ _ _ _ hd.out hp
        clear hsuc
        have hmo := hm.out
        subst hmo
        have hlk : out.length = k := hmk.out
        have hol : Hid (out.length + 1 = (out ++ [es]).length) := by show _ = _; simp
        have hok : Hid (out.length + 1 = k + 1) := by show _ = _; omega
        have hout : out.length ≤ 900000000 := by omega
        clear hlk
        go_wp2_with (first | (go_at_call 31; with_reducible refine hyes.mono ?_; rintro e V ⟨qo, lq, cq, rfl, tV, bV⟩; have hr1 := rl_new hls tV hb.size (.cells #[.slice qo lq cq] 25); have hl2 := ls_later hls bV (.cells #[.slice qo lq cq] 25); have hB9 : w3.heap.size ≤ (V.alloc (.cells #[.slice qo lq cq] 25)).heap.size := (by have := hb.size; have := bV.size; simp; omega)) | (with_reducible show wpList _ _ _ (⟨some 89, _, _, _, _, _⟩ :: _) _ _; refine wpList_one (Rx.st _ RL.stable) (Rx.pl _ RL.plain) Try.underlying26 Try.info25 rfl (by omega) (by omega) rfl _ _ rfl w3.heap.size (.slice bo out.length cb) out rfl hl2 ⟨V.heap.size, 0, none⟩ 1 [.slice qo lq cq] es rfl (lx_cell_one V _ 25) hr1 (by omega) hB9 ?_; intro ao5 n5 c5 w5 hn5 hls5 hof5 hsub5; subst hn5))
        go_roundw
        case rel => exact ⟨k + 1, out.length + 1, ao5, c5, out ++ [es], by omega, by go_num, rfl, hol, hok, hd2, hls5, ls_below hls hb bV hof5⟩
        case measure => simp [intOf]; omega
    · exfalso
      have hkl : k = recs.length := by omega
      have := hd.out
      rw [hkl, List.take_of_length_le (by omega), hD] at this
      cases this

end Go.Proofs.Ytkbhhidmndhnoaa
