/- The walks of wal.load and wal.decode. -/
import Derived.Test.YtkbhhidmndhnoaaWMod
import Derived.Test.YtkbhhidmndhnoaaWAll
import Derived.Test.YtkbhhidmndhnoaaFEnts
import Derived.Test.YtkbhhidmndhnoaaDLaw
namespace Go.Proofs.Ytkbhhidmndhnoaa
open Go.RowKit Go.Sort

theorem Lv.step {α : Type} {c : Nat} {R : Reads α} (hst : Stable R) (hc : Plain c R) (h0 : 0 < c) {B : Nat} {S S' : List Nat} {w w' : World} {ao : Option Addr} {len cap : Nat} {es : List α} (h : Lv c R (List.range B) w ao len cap es) (hB : ∀ k ∈ S, k < B) (st : Step S S' w w') : Lv c R S' w' ao len cap es :=
  (h.mono (X' := S) hst hc h0 (fun k hk => .inl (by simp; exact hB k hk))).off hst hc h0 st.off st.sub

theorem load_none (pb : Nat) (d : Dm) (fv : Value) (vs : List Value) (S : List Nat) (nm : ByteArray) (w : World) (h : Dk w pb d fv vs S) (hn : d.files.length ≤ 1000000) (hs : nm.size ≤ 9223372036854775807) (hg : get d.files nm = none) :
    Calls Try.prog 33 #[.pointer (some ⟨pb, 0, none⟩), .string nm] w fun e w' => e = .returned (.tuple #[.slice none 0 0, .int .i64 (d.create nm).2]) ∧ ∃ fv' vs' S', Dk w' pb (d.create nm).1 fv' vs' S' ∧ Step S S' w w' := by
  have hr := read_any pb d fv vs S nm w h hn
  have e1 : (get d.files nm).isSome = false := by rw [hg]; rfl
  rw [e1] at hr
  have hcr := fun (V : World) (b : Below w.heap.size w V) => create_any pb d fv vs S nm V (h.later b) hn hs
  generalize (rd d.files nm) = xs at hr
  generalize d.create nm = P at hcr ⊢
  go_enter Try.func33, Try.ntmps33
  go_wp2_with (first
    | (go_at_call 26; with_reducible refine hr.mono ?_; rintro e w1 ⟨bo, cb, rfl, t1, b1⟩)
    | (go_at_call 47; with_reducible refine (hcr _ b1).mono ?_; rintro e w2 ⟨rfl, fv', vs', S', K', st⟩))
  go_ret2
  exact ⟨rfl, fv', vs', S', K', (Step.of_below b1).trans st⟩

theorem load_some (pb : Nat) (d : Dm) (fv : Value) (vs : List Value) (S : List Nat) (nm : ByteArray) (w : World) (h : Dk w pb d fv vs S) (hn : d.files.length ≤ 1000000) (f : Fl) (hg : get d.files nm = some f) :
    Calls Try.prog 33 #[.pointer (some ⟨pb, 0, none⟩), .string nm] w fun e w' => ∃ bo lb cb, e = .returned (.tuple #[.slice bo lb cb, .int .i64 (loadM d nm).2.2]) ∧ ∃ fv' vs' S', Dk w' pb (loadM d nm).1 fv' vs' S' ∧ Step S S' w w' ∧ Lv 1 RB S' w' bo lb cb (loadM d nm).2.1 := by
  have hr := read_any pb d fv vs S nm w h hn
  have e1 : (get d.files nm).isSome = true := by rw [hg]; rfl
  have e2 : rd d.files nm = f.data := by simp [rd, hg]
  rw [e1, e2] at hr
  have hlen : f.data.length ≤ 16777216 := Nat.le_trans (used_mem (get_mem hg)) (Nat.le_trans h.ok.room h.ok.lim)
  obtain ⟨_, _, hA3⟩ := allL_small _ f.data (Nat.le_refl _)
  have hall := fun (bo : Option Addr) (cb : Nat) (V : World) (t : Tx V bo f.data.length cb f.data) => fall_far bo f.data.length cb f.data V t (by omega)
  have hM : loadM d nm = if (allL f.data).2.2 = false then (d, [], 14) else if (allL f.data).2.1 < f.data.length then ((d.cut nm (allL f.data).2.1).1, (allL f.data).1, (d.cut nm (allL f.data).2.1).2) else (d, (allL f.data).1, 0) := by simp only [loadM, hg]
  rw [hM]
  clear hM
  have hlt := h.lt
  generalize f.data = xs at hr hlen hA3 hall ⊢
  obtain ⟨L, hL⟩ : ∃ L, Hid (allL xs = L) := ⟨_, rfl⟩
  rw [hL.out] at hA3 hall ⊢
  obtain ⟨recs, n, ok⟩ := L
  simp only at hA3 hall ⊢
  clear hL
  cases ok with
  | false =>
    simp only [if_true, Bool.false_eq_true, if_false] at hall ⊢
    go_enter Try.func33, Try.ntmps33
    go_wp2_with (first
      | (go_at_call 26; with_reducible refine hr.mono ?_; rintro e w1 ⟨bo, cb, rfl, t1, b1⟩)
      | (go_at_call 51; with_reducible refine (hall bo cb w1 t1).mono ?_; rintro e w2 ⟨ro, lr, cr, rfl, l2, b2⟩))
    go_ret2
    have b3 := b1.trans (b2.mono b1.size)
    exact ⟨none, 0, 0, rfl, fv, vs, S, h.later b3, Step.of_below b3, Lv.nil _ _ _ _⟩
  | true =>
    simp only [if_true, Bool.true_eq_false, if_false] at hall ⊢
    by_cases hc : n < xs.length
    · have hcut := fun (V : World) (b : Below w.heap.size w V) => dcut_any pb d fv vs S nm n V (h.later b) hn (by omega) (by omega)
      have hc' : (n : Int) < (xs.length : Int) := by omega
      rw [if_pos hc]
      generalize d.cut nm n = P at hcut ⊢
      go_enter Try.func33, Try.ntmps33
      go_wp2_with (first
        | (go_at_call 26; with_reducible refine hr.mono ?_; rintro e w1 ⟨bo, cb, rfl, t1, b1⟩)
        | (go_at_call 51; with_reducible refine (hall bo cb w1 t1).mono ?_; rintro e w2 ⟨ro, lr, cr, rfl, l2, b2⟩; have b3 := Below.trans b1 (b2.mono b1.size))
        | (go_at_call 52; with_reducible refine (hcut w2 b3).mono ?_; rintro e w3 ⟨rfl, fv', vs', S', K', st⟩))
      go_ret2
      have hs1 := b1.size
      exact ⟨ro, lr, cr, rfl, fv', vs', S', K', (Step.of_below b3).trans st, l2.step RB.stable RB.plain (by omega) (fun k hk => by have := hlt k hk; omega) st⟩
    · have hc' : ¬ (n : Int) < (xs.length : Int) := by omega
      rw [if_neg hc]
      go_enter Try.func33, Try.ntmps33
      go_wp2_with (first
        | (go_at_call 26; with_reducible refine hr.mono ?_; rintro e w1 ⟨bo, cb, rfl, t1, b1⟩)
        | (go_at_call 51; with_reducible refine (hall bo cb w1 t1).mono ?_; rintro e w2 ⟨ro, lr, cr, rfl, l2, b2⟩; have b3 := Below.trans b1 (b2.mono b1.size)))
      go_ret2
      have hs1 := b1.size
      exact ⟨ro, lr, cr, rfl, fv, vs, S, h.later b3, Step.of_below b3, l2.mono RB.stable RB.plain (by omega) (fun k hk => .inl (by have := hlt k hk; simp; omega))⟩

theorem load_any (pb : Nat) (d : Dm) (fv : Value) (vs : List Value) (S : List Nat) (nm : ByteArray) (w : World) (h : Dk w pb d fv vs S) (hn : d.files.length ≤ 1000000) (hs : nm.size ≤ 9223372036854775807) :
    Calls Try.prog 33 #[.pointer (some ⟨pb, 0, none⟩), .string nm] w fun e w' => ∃ bo lb cb, e = .returned (.tuple #[.slice bo lb cb, .int .i64 (loadM d nm).2.2]) ∧ ∃ fv' vs' S', Dk w' pb (loadM d nm).1 fv' vs' S' ∧ Step S S' w w' ∧ Lv 1 RB S' w' bo lb cb (loadM d nm).2.1 := by
  cases hg : get d.files nm with
  | none =>
    have hM : loadM d nm = ((d.create nm).1, [], (d.create nm).2) := by simp only [loadM, hg]
    rw [hM]
    refine (load_none pb d fv vs S nm w h hn hs hg).mono ?_
    rintro e w' ⟨rfl, fv', vs', S', K', st⟩
    exact ⟨none, 0, 0, rfl, fv', vs', S', K', st, Lv.nil _ _ _ _⟩
  | some f => exact load_some pb d fv vs S nm w h hn f hg

theorem rl_new {w wr V : World} {v : Value} {B : Nat} {out : List (List Ent)} (hls : Ls 25 1 (Rx (List.range w.heap.size) RL) wr B v out) {eo : Option Addr} {el ec : Nat} {es : List Ent} (l : Lv 3 RE (List.range wr.heap.size) V eo el ec es) (hw : w.heap.size ≤ wr.heap.size) (o : Obj) : Rx (List.range w.heap.size) RL (V.alloc o) (own v) [.slice eo el ec] es := by
  refine ⟨eo, el, ec, rfl, (l.later RE.stable ((Below.refl _ _).alloc (Nat.le_refl _) o)).mono RE.stable RE.plain (by omega) (fun k hk => .inl ?_)⟩
  simp
  rcases List.mem_append.1 hk with hk | hk
  · exact (hls.lt _ hk).1
  · simp at hk; omega
theorem ls_later {w wr V : World} {v : Value} {B : Nat} {out : List (List Ent)} (hls : Ls 25 1 (Rx (List.range w.heap.size) RL) wr B v out) (hb : Below wr.heap.size wr V) (o : Obj) : Ls 25 1 (Rx (List.range w.heap.size) RL) (V.alloc o) B v out := hls.later (Rx.st _ RL.stable) (hb.alloc hb.size o)
theorem ls_below {w wr V w5 : World} {v : Value} {out : List (List Ent)} {o : Obj} (hls : Ls 25 1 (Rx (List.range w.heap.size) RL) wr w.heap.size v out) (hb : Below w.heap.size w wr) (hV : Below wr.heap.size wr V) (ho : Off (own v) (V.alloc o) w5) : Below w.heap.size w w5 :=
  (hb.trans ((hV.alloc hV.size o).mono hb.size)).trans (ho.below (fun k hk => (hls.lt k hk).2) (by have := hb.size; have := hV.size; simp; omega))

/-- What decode tells. -/
def DecPost (w : World) (recs : List (List Int)) (e : Ending) (w' : World) : Prop :=
  (∃ ess bo lb cb, decL recs = some ess ∧ e = .returned (.tuple #[.slice bo lb cb, .int .i64 0]) ∧ Lv 1 RL (List.range w.heap.size) w' bo lb cb ess ∧ Below w.heap.size w w') ∨ (decL recs = none ∧ e = .returned (.tuple #[.slice none 0 0, .int .i64 14]) ∧ Below w.heap.size w w')

set_option maxHeartbeats 1000000 in
theorem decode_any (ao : Option Addr) (la ca : Nat) (recs : List (List Int)) (w : World) (h : Lx 1 RB w ao la ca recs) (hsz : ∀ x ∈ recs, x.length ≤ 900000000) (hla : la ≤ 900000000) :
    Calls Try.prog 34 #[.slice ao la ca] w fun e w' => DecPost w recs e w' := by
  have hl := h.len_eq
  by_cases h0 : 0 < la
  · obtain ⟨b, off, rfl, hc⟩ := h.headB h0
    go_enter Try.func34, Try.ntmps34
    go_wp2
    go_loopw [4, 6, 7, 8, 11] (fun o _ _ _ i wr => ∃ (k m : Nat) (bo : Option Addr) (cb : Nat) (out : List (List Ent)), k ≤ la ∧ i = .int .i64 k ∧ o = .slice bo m cb ∧ Hid (m = out.length) ∧ Hid (m = k) ∧ Hid (decL (recs.take k) = some out) ∧ Ls 25 1 (Rx (List.range w.heap.size) RL) wr w.heap.size (.slice bo m cb) out ∧ Below w.heap.size w wr) (fun _ _ _ _ i _ => la - (intOf i).toNat)
    case atStart => exact ⟨0, 0, none, 0, [], by omega, rfl, rfl, rfl, rfl, rfl, Ls.nil _ _ _ _ _, Below.refl _ _⟩
    case round =>
      obtain ⟨k, m, bo, cb, out, hk, rfl, rfl, hm, hmk, hd, hls, hb⟩ := hrel
      by_cases hk2 : k < la
      · have hx : recs[k]? = some (recs[k]'(by omega)) := by simp
        obtain ⟨eo, el, ec, c1, t1⟩ := hc k _ hx
        have hel := hsz _ (List.getElem_mem (show k < recs.length by omega))
        have hsuc : recs.take (k + 1) = recs.take k ++ [recs[k]'(by omega)] := List.take_succ_eq_append_getElem (by omega)
        have htl := t1.len_eq
        have c1 := cell_later hb c1
        have t1 := t1.later hb
        generalize recs[k]'(by omega) = x at hx t1 hel hsuc htl
        have hent := fents_any eo el ec x wr t1 (by omega)
        cases hp : entriesL x with
        | none =>
          have hno : Calls Try.prog 53 #[.slice eo el ec] wr fun e w' => e = .returned (.tuple #[.slice none 0 0, .int .i64 12]) ∧ Below wr.heap.size wr w' := hent.mono fun e w' hh => by
            rcases hh with ⟨es, _, _, _, h1, _⟩ | ⟨_, he, hb⟩
            · rw [hp] at h1; cases h1
            · exact ⟨he, hb⟩
          have hbad := decL_bad recs k x hx hp
          clear hent hsuc hd
          go_wp2_with (go_at_call 53; with_reducible refine hno.mono ?_; rintro e V ⟨rfl, bV⟩)
          go_ret2
          exact .inr ⟨hbad, rfl, hb.trans (bV.mono hb.size)⟩
        | some es =>
          have hyes : Calls Try.prog 53 #[.slice eo el ec] wr fun e w' => ∃ qo lq cq, e = .returned (.tuple #[.slice qo lq cq, .int .i64 0]) ∧ Lv 3 RE (List.range wr.heap.size) w' qo lq cq es ∧ Below wr.heap.size wr w' := hent.mono fun e w' hh => by
            rcases hh with ⟨es', qo, lq, cq, h1, he, hx, hb⟩ | ⟨h1, _⟩
            · rw [hp] at h1; cases h1; exact ⟨qo, lq, cq, he, hx, hb⟩
            · rw [hp] at h1; cases h1
          have hd2 : Hid (decL (recs.take (k + 1)) = some (out ++ [es])) := by show _ = _; rw [hsuc]; exact decL_snoc _ _ _ _ hd.out hp
          clear hent hsuc
          have hmo := hm.out
          subst hmo
          have hlk : out.length = k := hmk.out
          have hol : Hid (out.length + 1 = (out ++ [es]).length) := by show _ = _; simp
          have hok : Hid (out.length + 1 = k + 1) := by show _ = _; omega
          have hout : out.length ≤ 900000000 := by omega
          clear hlk
          go_wp2_with (first | (go_at_call 53; with_reducible refine hyes.mono ?_; rintro e V ⟨qo, lq, cq, rfl, tV, bV⟩; have hr1 := rl_new hls tV hb.size (.cells #[.slice qo lq cq] 25); have hl2 := ls_later hls bV (.cells #[.slice qo lq cq] 25); have hB9 : w.heap.size ≤ (V.alloc (.cells #[.slice qo lq cq] 25)).heap.size := (by have := hb.size; have := bV.size; simp; omega)) | (with_reducible show wpList _ _ _ (⟨some 25, _, _, _, _, _⟩ :: _) _ _; refine wpList_one (Rx.st _ RL.stable) (Rx.pl _ RL.plain) Try.underlying26 Try.info25 rfl (by omega) (by omega) rfl _ _ rfl w.heap.size (.slice bo out.length cb) out rfl hl2 ⟨V.heap.size, 0, none⟩ 1 [.slice qo lq cq] es rfl (lx_cell_one V _ 25) hr1 (by omega) hB9 ?_; intro ao5 n5 c5 w5 hn5 hls5 hof5 hsub5; subst hn5))
          go_roundw
          case rel => exact ⟨k + 1, out.length + 1, ao5, c5, out ++ [es], by omega, by go_num, rfl, hol, hok, hd2, hls5, ls_below hls hb bV hof5⟩
          case measure => simp [intOf]; omega
      · have hkl : k = la := by omega
        have hfin : decL recs = some out := by have := hd.out; rwa [hkl, List.take_of_length_le (by omega)] at this
        go_wp2
        go_ret2
        exact .inl ⟨out, bo, m, cb, hfin, rfl, hls.lv RL.stable RL.plain (by simp), hb⟩
  · obtain rfl : la = 0 := by omega
    have hl0 : recs = [] := List.eq_nil_of_length_eq_zero hl
    subst hl0
    go_enter Try.func34, Try.ntmps34
    go_wp2
    refine wp_loop_rounds 1 ?_
    rw [rounds_succ]
    go_wp2
    go_ret2
    exact .inl ⟨[], none, 0, 0, rfl, rfl, Lv.nil _ _ _ _, Below.refl _ _⟩

end Go.Proofs.Ytkbhhidmndhnoaa
