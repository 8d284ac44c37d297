/- The walk of TableRanges. -/
import Derived.Test.YteeemfohehpaeaaTKnown
import Derived.Test.YteeemfohehpaeaaTRange
import Derived.Test.YteeemfohehpaeaaBReads
import Derived.Test.YteeemfohehpaeaaBRise
import Derived.Test.YteeemfohehpaeaaPE
namespace Go.Proofs.Yteeemfohehpaeaa
set_option maxRecDepth 100000
open Go.RowKit Go.Sort

theorem cut_parts2 (K V : Nat) (hK : 1 ≤ K) (e : Ent) : 1 ≤ (cutE K V e).k.length ∧ (cutE K V e).k.length ≤ K ∧ (cutE K V e).v.length ≤ V ∧ norm (cutE K V e) = cutE K V e := by
  obtain ⟨k, v, g⟩ := e
  refine ⟨?_, ?_, ?_, ?_⟩
  · show 1 ≤ (if (k.take K).length = 0 then [107] else k.take K).length
    split
    · simp
    · omega
  · show (if (k.take K).length = 0 then [107] else k.take K).length ≤ K
    split
    · simpa using hK
    · rw [List.length_take]; omega
  · show (if g = true then [] else v.take V).length ≤ V
    split
    · simp
    · rw [List.length_take]; omega
  · cases g <;> simp [cutE, norm]
theorem drawn_of (n K V : Nat) (hK : 1 ≤ K) (hK2 : K ≤ 12) (hV : V ≤ 20) (l : List Ent) : Drawn n (riseL (keepL n K V l)) := by
  have hmem : ∀ e ∈ riseL (keepL n K V l), ∃ x, e = cutE K V x := fun e he => by
    have := rise_mem _ e he
    simp only [keepL, List.mem_map] at this
    obtain ⟨x, _, rfl⟩ := this
    exact ⟨x, rfl⟩
  refine ⟨?_, rise_ok _ (fun e he => ?_), fun e he => ?_, fun e he => ?_⟩
  · have := rise_len (keepL n K V l)
    have h2 : (keepL n K V l).length ≤ n := by simp only [keepL, List.length_map, List.length_take]; omega
    omega
  · simp only [keepL, List.mem_map] at he
    obtain ⟨x, _, rfl⟩ := he
    obtain ⟨h1, h2, h3, _⟩ := cut_parts2 K V hK x
    rw [fitsE_iff]
    exact ⟨h1, by omega, .inr (by omega)⟩
  · obtain ⟨x, rfl⟩ := hmem e he
    obtain ⟨h1, h2, h3, _⟩ := cut_parts2 K V hK x
    exact ⟨h1, by omega, by omega⟩
  · obtain ⟨x, rfl⟩ := hmem e he
    exact (cut_parts2 K V hK x).2.2.2
theorem Drawn.mayT {n : Nat} {m : List Ent} (h : Drawn n m) (hn : n ≤ 255) (h0 : 1 ≤ m.length) : mayB 65535 m = true := (mayB_iff 65535 m).2 ⟨h0, by have := h.len; omega, h.ok⟩
theorem Drawn.normT {n : Nat} {m : List Ent} (h : Drawn n m) : m.map norm = m := by
  have : m.map norm = m.map id := List.map_congr_left (fun e he => by rw [h.normal e he]; rfl)
  rw [this, List.map_id]
theorem Drawn.open {n : Nat} {m : List Ent} (h : Drawn n m) (hn : n ≤ 255) (h0 : 1 ≤ m.length) : openT (tableL m) = some m := openT_table m h0 (by have := h.len; omega) h.ok h.normT
theorem okL_nil_of {l : List Ent} {p : List Int} (h : okL p l = true) (hk : ∀ e ∈ l, 1 ≤ e.k.length) : okL [] l = true := by
  cases l with
  | nil => rfl
  | cons e l =>
    simp only [okL, Bool.and_eq_true] at h ⊢
    refine ⟨⟨h.1.1, ?_⟩, h.2⟩
    have := hk e (by simp)
    cases hk : e.k with
    | nil => rw [hk] at this; simp at this
    | cons a b => rfl
theorem Drawn.blk {n : Nat} {m : List Ent} (h : Drawn n m) (i : Nat) : okL [] (blk m i) = true := by
  have h1 := h.ok
  have hk : ∀ e ∈ Yteeemfohehpaeaa.blk m i, 1 ≤ e.k.length := fun e he => (h.small e (List.mem_of_mem_drop (List.mem_of_mem_take he))).1
  rw [← List.take_append_drop (8 * i) m, okL_app, Bool.and_eq_true] at h1
  have h2 := h1.2
  rw [← List.take_append_drop 8 (m.drop (8 * i)), okL_app, Bool.and_eq_true] at h2
  exact okL_nil_of h2.1 hk
theorem Drawn.table {n : Nat} {m : List Ent} (h : Drawn n m) (hn : n ≤ 255) : (tableL m).length ≤ 900000000 := by
  have hlen : ∀ js : List Nat, (bodyT m js).length ≤ js.length * 34885 := by
    intro js
    induction js with
    | nil => simp [bodyT]
    | cons i js ih =>
      have h2 := block_blk m i (h.blk i)
      have e1 : bodyT m (i :: js) = blockL (Yteeemfohehpaeaa.blk m i) ++ bodyT m js := by simp [bodyT]
      rw [e1, List.length_append, List.length_cons, Nat.add_mul]; omega
  have h1 := hlen (List.range (nbl m))
  have h2 := h.len
  have h3 : nbl m ≤ 100 := by unfold nbl; omega
  have h4 := lensT_length m (List.range (nbl m))
  rw [List.length_range] at h1 h4
  simp only [tableL, tailT, List.length_append, length_low, h4, List.length_cons, List.length_nil]
  omega

theorem filt_at {p : Ent → Bool} : ∀ (m : List Ent) (i : Nat) (x : Ent), m[i]? = some x → p x = true → (m.filter p)[((m.take i).filter p).length]? = some x
  | [], i, x, h, _ => by simp at h
  | y :: m, 0, x, h, hp => by simp at h; subst h; simp [hp]
  | y :: m, i + 1, x, h, hp => by
    have ih := filt_at m i x (by simpa using h) hp
    cases hy : p y <;> simp [hy, ih]
theorem filt_len {p : Ent → Bool} (m : List Ent) (i : Nat) (x : Ent) (h : m[i]? = some x) : ((m.take (i + 1)).filter p).length = ((m.take i).filter p).length + (if p x = true then 1 else 0) := by
  rw [take_snoc m i x h, List.filter_append, List.length_append]
  cases hp : p x <;> simp [hp]
theorem del_same (m : List Ent) (ts : List Int) (h : 0 < ts.length) : m.filter (fun e => !delK ts ts e.k) = [] := by
  rw [List.filter_eq_nil_iff]
  intro e _
  cases hl : lessB e.k ts <;> simp [delK, hl, h]

set_option maxHeartbeats 16000000 in
theorem tranges_walk (ao : Option Addr) (la ca : Nat) (l : List Ent) (ko : Option Addr) (lk ck : Nat) (key : List Int) (bo : Option Addr) (lb cb : Nat) (bs : List Int) (w : World) (hl : Lx 3 RE w ao la ca l) (hk : Tx w ko lk ck key) (hx : Tx w bo lb cb bs) :
    Calls Try.prog 8 #[.slice ao la ca, .slice ko lk ck, .slice bo lb cb] w fun e w' => e = .returned (.bool true) ∧ Below w.heap.size w w' := by
  have hD := drawn_of 50 4 6 (by omega) (by omega) (by omega) l
  have hkp := keep_any ao la ca l 50 4 6 50 4 6 rfl rfl rfl (by omega) (by omega) (by omega) w hl
  have hri := fun (bo : Option Addr) (lb cb : Nat) (W : World) (h : Lx 3 RE W bo lb cb (keepL 50 4 6 l)) => rise_any bo lb cb _ W h (by have h1 := h.len_eq; simp only [keepL, List.length_map, List.length_take] at h1; omega)
  generalize riseL (keepL 50 4 6 l) = m at hD hri
  generalize keepL 50 4 6 l = kp at hkp hri
  go_enter Try.func8, Try.ntmps8
  go_wp2_with (first
    | (go_at_call 14; with_reducible refine hkp.mono ?_; rintro e W1 ⟨o1, l1, c1, rfl, x1, b1⟩; clear hkp; have hri1 := hri o1 l1 c1 W1 x1))
  with_reducible refine hri1.mono ?_
  rintro e W2 ⟨mo, ml, mc, rfl, x2, b2⟩
  clear hri1
  have B2 := below_tr2 b1 b2
  have hml := x2.len_eq
  have hm30 := hD.len
  by_cases h0 : ml = 0
  · subst h0
    go_wp2_with (go_at_call 20; with_reducible refine (tknown_any W2).mono ?_; rintro e W7 ⟨rfl, b7⟩)
    go_ret
    exact ⟨rfl, below_tr2 B2 b7⟩
  · have h0b : ((ml : Int) == 0) = false := by simp [h0]
    have hm1 : 1 ≤ m.length := by omega
    have hbd := tbuild_yes mo ml mc m W2 x2 hD.keys (hD.mayT (by omega) hm1)
    have hop := hD.open (by omega) hm1
    have htl := hD.table (by omega)
    generalize tableL m = tb at hbd hop htl
    go_wp2_with fail
    with_reducible refine hbd.mono ?_
    clear hbd
    rintro e W3 ⟨to, tl, tc, rfl, t3, b3⟩
    have hlb : tl ≤ 900000000 := by rw [← t3.len_eq]; exact htl
    have hpn := topen_yes to tl tc m tb W3 t3 hlb hop
    go_wp2_with fail
    with_reducible refine hpn.mono ?_
    clear hpn hop htl
    rintro e W4 ⟨pb, rfl, T4, b4⟩
    have B4 := below_tr2 (below_tr2 B2 b3) b4
    have x4 := (x2.later RE.stable b3).later RE.stable b4
    have k4 := hk.later B4
    have e4 := hx.later B4
    clear hri t3 b1 b2 b3 b4 x1 x2 B2
    have hc1 := cut_at ko lk ck 4 4 key W4 rfl k4 (by omega)
    go_wp2_with fail
    with_reducible refine hc1.mono ?_
    clear hc1
    rintro e W4' ⟨fl, rfl, hfl, tf4, rfl⟩
    have bE : Below W4.heap.size W4 (W4.alloc (.cells #[] 5)) := (Below.refl _ _).alloc (Nat.le_refl _) _
    have g0 := own_empty2 W4
    have hc2 := cut_at bo lb cb 4 4 bs (W4.alloc (.cells #[] 5)) rfl (e4.later bE) (by omega)
    go_wp2_with fail
    with_reducible refine hc2.mono ?_
    clear hc2
    rintro e W5' ⟨tl2, rfl, htl2, tt5, rfl⟩
    go_wp2_with (first
      | (with_reducible show wpList _ _ _ (⟨some 48, _, _, _, _, _⟩ :: _) _ _; refine wpList_gr rfl _ _ rfl W4.heap.size (some ⟨W4.heap.size, 0, none⟩) 0 0 [] rfl g0 bo tl2 cb (bs.take 4) rfl tt5 (by omega) ?_; intro a9 n9 c9 W6 hn9 g9 m9; have b9 := bE.trans (m9.below g0); have g9A := g9.alloc (.cells #[.int .u8 120] 5); have t12 := tx_one W6 120 (by omega); have hn9' : n9 ≤ 4 := (by have := hn9.out; omega); clear hn9)
      | (with_reducible show wpList _ _ _ (⟨some 50, _, _, _, _, _⟩ :: _) _ _; refine wpList_gr rfl _ _ rfl W4.heap.size a9 n9 c9 ([] ++ bs.take 4) rfl g9A (some ⟨W6.heap.size, 0, none⟩) 1 1 [120] rfl t12 (by omega) ?_; intro a10 n10 c10 W7 hn10 g10 m10; have b10 := (b9.alloc b9.size (.cells #[.int .u8 120] 5)).trans (m10.below g9A); have hn10' : n10 ≤ 5 := (by have := hn10.out; omega); clear hn10))
    have tt7 := g10.tx
    have tf7 := tf4.later b10
    have T7 := T4.later b10
    have x7 := x4.later RE.stable b10
    have B7 := below_tr2 B4 b10
    have hts : 0 < ([] ++ bs.take 4 ++ [120] : List Int).length := by simp
    clear g9 g9A t12 m9 m10 g10 g0 tt5 tf4 T4 x4 k4 e4 b9 bE hl hk hx b10 B4
    generalize ([] ++ bs.take 4 ++ [120] : List Int) = ts at tt7 hts
    generalize key.take 4 = fs at tf7
    have hrg := range_any pb m ko fl ck fs a10 n10 c10 ts W7 T7 tf7 tt7 (by omega) (by omega) hm1
    with_reducible refine hrg.mono ?_
    clear hrg
    rintro e W8 ⟨ro, rl, rc, rfl, xr, b8⟩
    have T8 := T7.later b8
    have tf8 := tf7.later b8
    have tt8 := tt7.later b8
    have x8 := x7.later RE.stable b8
    have B8 := below_tr2 B7 b8
    clear T7 tf7 tt7 x7 b8 B7
    have hrl := xr.len_eq
    obtain ⟨mb, mf, rfl, hc⟩ := x8.headE (by omega)
    have hat : ∀ (i : Nat) (x : Ent), m[i]? = some x → (!delK fs ts x.k) = true → (m.filter (fun e => !delK fs ts e.k))[((m.take i).filter (fun e => !delK fs ts e.k)).length]? = some x := fun i x h hp => filt_at m i x h hp
    have hst : ∀ (i : Nat) (x : Ent), m[i]? = some x → ((m.take (i + 1)).filter (fun e => !delK fs ts e.k)).length = ((m.take i).filter (fun e => !delK fs ts e.k)).length + (if (!delK fs ts x.k) = true then 1 else 0) := fun i x h => filt_len m i x h
    have hend : ((m.take ml).filter (fun e => !delK fs ts e.k)).length = rl := by rw [← hrl, List.take_of_length_le (by omega)]
    have hsame := del_same m ts hts
    have hdel : ∀ x : Ent, (!delK fs ts x.k) = (!lessB x.k fs && lessB x.k ts) := fun x => by
      simp only [delK, decide_eq_true hts, Bool.true_and]
      cases lessB x.k fs <;> cases lessB x.k ts <;> rfl
    generalize m.filter (fun e => !delK fs ts e.k) = r at xr hrl hat
    go_wp2
    go_loopw [13, 14, 15] (fun s13 s14 _ wr => ∃ (i n : Nat), i ≤ ml ∧ s13 = .int .i64 n ∧ s14 = .int .i64 i ∧ Hid (((m.take i).filter (fun e => !delK fs ts e.k)).length = n) ∧ Below W8.heap.size W8 wr) (fun _ s14 _ _ => ml - (intOf s14).toNat)
    case atStart => exact ⟨0, 0, by omega, rfl, rfl, rfl, Below.refl _ _⟩
    case round =>
      obtain ⟨i, n, hi, rfl, rfl, hn, hb⟩ := hrel
      by_cases hi2 : i < ml
      · have hxi : m[i]? = some (m[i]'(by omega)) := by simp
        obtain ⟨jo, jl, jc, uo, ul, uc, c0, c1, c2, tj, tv⟩ := hc i _ hxi
        have hst2 := hst i _ hxi
        have hat2 := hat i _ hxi
        have hdel2 := hdel (m[i]'(by omega))
        rw [hn.out] at hst2 hat2
        rw [hdel2] at hst2 hat2
        have hless1 := str_less _ _ tj.rng tf8.rng
        have hless2 := str_less _ _ tj.rng tt8.rng
        have hst3 : Hid (((m.take (i + 1)).filter (fun e => !delK fs ts e.k)).length = n + if (!lessB (m[i]'(by omega)).k fs && lessB (m[i]'(by omega)).k ts) = true then 1 else 0) := hst2
        have hat3 : Hid ((!lessB (m[i]'(by omega)).k fs && lessB (m[i]'(by omega)).k ts) = true → r[n]? = some (m[i]'(by omega))) := hat2
        clear hst2 hat2 hdel2 hxi hst hat hdel
        generalize m[i]'(by omega) = x at c2 tj tv hless1 hless2 hst3 hat3
        clear c1 c2 tv
        have q0 := fun d os => cell_regrown (cell_later hb c0) d os
        have s0 := fun d os => ((tj.later hb).later (below_regrown wr d os)).string
        have s1 := fun d os => ((tf8.later hb).later (below_regrown wr d os)).string
        have s2 := fun d os => ((tt8.later hb).later (below_regrown wr d os)).string
        generalize hSK : strOfNums x.k = SK at s0 hless1 hless2
        generalize strOfNums fs = SF at s1 hless1
        generalize strOfNums ts = ST at s2 hless2
        have hki : (i : Int) < ml := by omega
        generalize lessB x.k fs = F1 at hless1 hst3 hat3
        generalize lessB x.k ts = F2 at hless2 hst3 hat3
        cases F1 with
        | true =>
          go_wp2_with fail
          refine wp_region_quiet_below (by kernel_rfl) (by kernel_rfl) ?_
          repeat (go_big_quiet_step (fail))
          (with_reducible refine wpQuiet_nil ?_)
          intro _ hw'
          obtain ⟨⟨dq, osq⟩, hw''⟩ := hw'
          subst hw''
          have hb2 := hb.trans ((below_regrown wr dq osq).mono hb.size)
          have hn2 : Hid (((m.take (i + 1)).filter (fun e => !delK fs ts e.k)).length = n) := by show _ = _; rw [hst3.out]; simp
          clear q0 s0 s1 s2 hst3 hat3
          generalize grow (redrawn wr dq) osq = V at hb2 ⊢
          go_wp2
          go_roundw
          case rel => exact ⟨i + 1, n, by omega, rfl, by go_num, hn2, hb2⟩
          case measure => simp [intOf]; omega
        | false =>
          cases F2 with
          | false =>
            go_wp2_with fail
            refine wp_region_quiet_below (by kernel_rfl) (by kernel_rfl) ?_
            repeat (go_big_quiet_step (fail))
            (with_reducible refine wpQuiet_nil ?_)
            intro _ hw'
            obtain ⟨⟨dq, osq⟩, hw''⟩ := hw'
            subst hw''
            have hb2 := hb.trans ((below_regrown wr dq osq).mono hb.size)
            have hn2 : Hid (((m.take (i + 1)).filter (fun e => !delK fs ts e.k)).length = n) := by show _ = _; rw [hst3.out]; simp
            clear q0 s0 s1 s2 hst3 hat3
            generalize grow (redrawn wr dq) osq = V at hb2 ⊢
            go_wp2
            go_roundw
            case rel => exact ⟨i + 1, n, by omega, rfl, by go_num, hn2, hb2⟩
            case measure => simp [intOf]; omega
          | true =>
            have hri2 : r[n]? = some x := hat3.out rfl
            have hnr : n < r.length := (List.getElem?_eq_some_iff.1 hri2).1
            obtain ⟨rb, rf, rfl, hcr⟩ := xr.headE (by omega)
            obtain ⟨no_, nl, nc, vo2, vl2, vc2, d0, _, _, tn, _⟩ := hcr n _ hri2
            clear hcr hri2
            have hn2 : Hid (((m.take (i + 1)).filter (fun e => !delK fs ts e.k)).length = n + 1) := by show _ = _; rw [hst3.out]; simp
            clear hst3 hat3
            go_wp2_with fail
            refine wp_region_quiet_below (by kernel_rfl) (by kernel_rfl) ?_
            repeat (go_big_quiet_step (fail))
            (with_reducible refine wpQuiet_nil ?_)
            intro _ hw'
            obtain ⟨⟨dq, osq⟩, hw''⟩ := hw'
            subst hw''
            have hb2 := hb.trans ((below_regrown wr dq osq).mono hb.size)
            clear q0 s0 s1 s2
            generalize grow (redrawn wr dq) osq = V at hb2 ⊢
            have q0 := fun d os => cell_regrown (cell_later hb2 c0) d os
            have q1 := fun d os => cell_regrown (cell_later hb2 d0) d os
            have s0 := fun d os => ((tj.later hb2).later (below_regrown V d os)).string
            have s1 := fun d os => ((tn.later hb2).later (below_regrown V d os)).string
            rw [hSK] at s0 s1
            have hd1 : decide ((rl : Int) ≤ (n : Int)) = false := by simp; omega
            have hd2 : decide (rl ≤ n) = false := by simp; omega
            have hn50 : n ≤ 50 := by
              have h1 := hn.out
              have h2 := List.length_filter_le (fun e => !delK fs ts e.k) (m.take i)
              rw [h1, List.length_take] at h2
              omega
            go_wp2_with fail
            refine wp_region_quiet_below (by kernel_rfl) (by kernel_rfl) ?_
            repeat (go_big_quiet_step (fail))
            (with_reducible refine wpQuiet_nil ?_)
            intro _ hw'
            obtain ⟨⟨dq2, osq2⟩, hw''⟩ := hw'
            subst hw''
            have hb3 := hb2.trans ((below_regrown V dq2 osq2).mono hb2.size)
            clear q0 q1 s0 s1
            generalize grow (redrawn V dq2) osq2 = V2 at hb3 ⊢
            go_wp2
            go_roundw
            case rel => exact ⟨i + 1, n + 1, by omega, by go_num, by go_num, hn2, hb3⟩
            case measure => simp [intOf]; omega
      · have him : i = ml := by omega
        subst him
        have hnr : rl = n := by rw [← hend, hn.out]
        subst hnr
        have hiI : ¬ (i : Int) < i := by omega
        have T9 := T8.later hb
        have tt9 := tt8.later hb
        have hrg := range_any pb m a10 n10 c10 ts a10 n10 c10 ts wr T9 tt9 tt9 (by omega) (by omega) hm1
        rw [hsame] at hrg
        clear hat hst hend hn hc hdel hrl xr
        go_wp2_with fail
        with_reducible refine hrg.mono ?_
        clear hrg
        rintro e V ⟨qo, ql, qc, rfl, xq, bq⟩
        have hql := xq.len_eq
        have hql0 : 0 = ql := hql
        subst hql0
        clear hql xq
        go_wp2_with (go_at_call 20; with_reducible refine (tknown_any V).mono ?_; rintro e W9 ⟨rfl, b9⟩)
        go_ret
        exact ⟨rfl, below_tr2 (below_tr2 (below_tr2 B8 hb) bq) b9⟩
end Go.Proofs.Yteeemfohehpaeaa
