/- The walks of table.All and of the document's own Range. The walk of the document's own Get. The walk of table.Bounds. The walk of the statements' own asks. -/
import Derived.Test.YteeemfohehpaeaaTRanges
import Derived.Test.YteeemfohehpaeaaFWalksI
import Derived.Test.YteeemfohehpaeaaTKnown
namespace Go.Proofs.Yteeemfohehpaeaa

section
set_option maxRecDepth 100000
open Go.RowKit Go.Sort

theorem Ls.lx {w : World} {B : Nat} {bo : Option Addr} {n cb : Nat} {es : List Ent} (h : Ls 25 3 RE w B (.slice bo n cb) es) : Lx 3 RE w bo n cb es := by
  obtain ⟨ao9, cap9, e9, hx9⟩ := h.read RE.stable RE.plain
  simp only [Value.slice.injEq] at e9
  obtain ⟨rfl, e10, rfl⟩ := e9
  rw [← e10] at hx9
  exact hx9
theorem tall_any (pb : Nat) (m : List Ent) (w : World) (h : Tb w pb m) :
    Calls Try.prog 63 #[.pointer (some ⟨pb, 0, none⟩)] w fun e w' => ∃ bo lb cb, e = .returned (.slice bo lb cb) ∧ Lx 3 RE w' bo lb cb m ∧ Below w.heap.size w w' := by
  obtain ⟨ps, ls, ro, rl, rc, ht, hpk⟩ := h
  have hrl := ht.row.len_eq
  have hpl9 : rl ≤ 1000000 := by have := hpk.cnt; have := hpk.le; omega
  have c0 := ht.c0
  have hga := tgather_any ro rl rc ps w ht.row hpl9 hpk.sz
  rw [hpk.gat] at hga
  go_enter Try.func63, Try.ntmps63
  go_wp2_with fail
  with_reducible refine hga.mono ?_
  rintro e W ⟨bo, lb, cb, rfl, hls, hlb, b1⟩
  clear hlb
  go_wp2
  go_ret
  exact ⟨bo, lb, cb, rfl, hls.lx, b1⟩

theorem filt_take {p : Ent → Bool} (m : List Ent) (i : Nat) (x : Ent) (h : m[i]? = some x) : (m.take (i + 1)).filter p = (m.take i).filter p ++ (if p x = true then [x] else []) := by
  rw [take_snoc m i x h, List.filter_append]
  cases hp : p x <;> simp [hp]

set_option maxHeartbeats 8000000 in
theorem rrange_any (ao : Option Addr) (la ca : Nat) (m : List Ent) (fo : Option Addr) (fl fc : Nat) (fs : List Int) (to : Option Addr) (tl tc : Nat) (ts : List Int) (w : World) (h : Lx 3 RE w ao la ca m) (hf : Tx w fo fl fc fs) (ht : Tx w to tl tc ts) (sm : la ≤ 1000000) :
    Calls Try.prog 64 #[.slice ao la ca, .slice fo fl fc, .slice to tl tc] w fun e w' => ∃ bo lb cb, e = .returned (.slice bo lb cb) ∧ Lx 3 RE w' bo lb cb (m.filter (fun e => !delK fs ts e.k)) ∧ Below w.heap.size w w' := by
  have hl := h.len_eq
  have htl := ht.len_eq
  have hsnoc : ∀ (i : Nat) (x : Ent), m[i]? = some x → (m.take (i + 1)).filter (fun e => !delK fs ts e.k) = (m.take i).filter (fun e => !delK fs ts e.k) ++ (if (!delK fs ts x.k) = true then [x] else []) := fun i x h => filt_take m i x h
  have hfle : ∀ i, ((m.take i).filter (fun e => !delK fs ts e.k)).length ≤ i := fun i => by
    have := List.length_filter_le (fun e => !delK fs ts e.k) (m.take i)
    rw [List.length_take] at this; omega
  have hall : Hid ((m.take la).filter (fun e => !delK fs ts e.k) = m.filter (fun e => !delK fs ts e.k)) := by show _ = _; rw [List.take_of_length_le (by omega)]
  go_enter Try.func64, Try.ntmps64
  go_wp2
  go_loopw [7, 8] (fun s7 s8 wr => ∃ (i : Nat) (bo : Option Addr) (n cb : Nat), i ≤ la ∧ s7 = .slice bo n cb ∧ s8 = .int .i64 i ∧ Ls 25 3 RE wr w.heap.size (.slice bo n cb) ((m.take i).filter (fun e => !delK fs ts e.k)) ∧ Below w.heap.size w wr) (fun _ s8 _ => la - (intOf s8).toNat)
  case atStart => exact ⟨0, none, 0, 0, by omega, rfl, rfl, Ls.nil _ _ _ _ _, Below.refl _ _⟩
  case round =>
    obtain ⟨i, bo, n, cb, hi, rfl, rfl, hls, hb⟩ := hrel
    by_cases hi2 : i < la
    · obtain ⟨mb, mf, rfl, hc⟩ := h.headE (by omega)
      have hxi : m[i]? = some (m[i]'(by omega)) := by simp
      obtain ⟨jo, jl, jc, uo, ul, uc, c0, c1, c2, tj, tv⟩ := hc i _ hxi
      have hst : Hid ((m.take (i + 1)).filter (fun e => !delK fs ts e.k) = (m.take i).filter (fun e => !delK fs ts e.k) ++ (if (!delK fs ts (m[i]'(by omega)).k) = true then [m[i]'(by omega)] else [])) := hsnoc i _ hxi
      have hle : ((m.take i).filter (fun e => !delK fs ts e.k)).length ≤ 1000000000 := by have := hfle i; omega
      have hless1 := str_less _ _ tj.rng hf.rng
      have hless2 := str_less _ _ tj.rng ht.rng
      clear hc hxi hsnoc
      generalize m[i]'(by omega) = x at c2 tj tv hless1 hless2 hst
      generalize (m.take i).filter (fun e => !delK fs ts e.k) = acc at hls hst hle
      obtain ⟨G, hG⟩ : ∃ G, Hid (x.g = G) := ⟨_, rfl⟩
      rw [hG.out] at c2
      have hdel : Hid (delK fs ts x.k = (lessB x.k fs || (decide (0 < ts.length) && !lessB x.k ts))) := rfl
      have q0 := fun d os => cell_regrown (cell_later hb c0) d os
      have s0 := fun d os => ((tj.later hb).later (below_regrown wr d os)).string
      have s1 := fun d os => ((hf.later hb).later (below_regrown wr d os)).string
      have s2 := fun d os => ((ht.later hb).later (below_regrown wr d os)).string
      generalize strOfNums x.k = SK at s0 hless1 hless2
      generalize strOfNums fs = SF at s1 hless1
      generalize strOfNums ts = ST at s2 hless2
      have hki : (i : Int) < la := by omega
      obtain ⟨F1, hF1⟩ : ∃ F, Hid (lessB x.k fs = F) := ⟨_, rfl⟩
      obtain ⟨F2, hF2⟩ : ∃ F, Hid (lessB x.k ts = F) := ⟨_, rfl⟩
      rw [hF1.out] at hless1
      rw [hF2.out] at hless2
      cases F1 with
      | true =>
        have hno : Hid ((m.take (i + 1)).filter (fun e => !delK fs ts e.k) = acc) := by show _ = _; rw [hst.out, hdel.out, hF1.out]; simp
        go_wp2_with fail
        refine wp_region_quiet_below (by kernel_rfl) (by kernel_rfl) ?_
        repeat (go_big_quiet_step (fail))
        (with_reducible refine wpQuiet_nil ?_)
        intro _ hw'
        obtain ⟨⟨dq, osq⟩, hw''⟩ := hw'
        subst hw''
        have bq := below_regrown wr dq osq
        have hb2 := hb.trans (bq.mono hb.size)
        have hls2 := hls.later RE.stable bq
        clear q0 s0 s1 s2 hls
        generalize grow (redrawn wr dq) osq = V at hb2 hls2 ⊢
        go_wp2
        go_roundw
        case rel => exact ⟨i + 1, bo, n, cb, by omega, rfl, by go_num, by rw [hno.out]; exact hls2, hb2⟩
        case measure => simp [intOf]; omega
      | false =>
        by_cases h0 : tl = 0
        · subst h0
          have hyes : Hid ((m.take (i + 1)).filter (fun e => !delK fs ts e.k) = acc ++ [x]) := by show _ = _; rw [hst.out, hdel.out, hF1.out]; simp [htl]
          have htjl := tj.lt
          have htvl := tv.lt
          go_wp2_with fail
          refine wp_region_quiet_below (by kernel_rfl) (by kernel_rfl) ?_
          repeat (go_big_quiet_step (fail))
          (with_reducible refine wpQuiet_nil ?_)
          intro _ hw'
          obtain ⟨⟨dq, osq⟩, hw''⟩ := hw'
          subst hw''
          have bq := below_regrown wr dq osq
          have hb2 := hb.trans (bq.mono hb.size)
          have hls2 := hls.later RE.stable bq
          clear q0 s0 s1 s2 hls
          generalize grow (redrawn wr dq) osq = V at hb2 hls2 ⊢
          have d0 := cell_later hb2 c0
          have d1 := cell_later hb2 c1
          have d2 := cell_later hb2 c2
          have HL := ls_ent hls2 (Below.refl _ _) (.cells #[.slice jo jl jc, .slice uo ul uc, .bool G] 25)
          have HR := re_ent (e := x) (G := G) hls2 hG.out.symm (tj.later hb2) (tv.later hb2) (fun ad ha h0 => .inl (htjl ad ha h0)) (fun ad ha h0 => .inl (htvl ad ha h0)) (.cells #[.slice jo jl jc, .slice uo ul uc, .bool G] 25)
          have hw8b := size_ent (.cells #[.slice jo jl jc, .slice uo ul uc, .bool G] 25) hb2 (Below.refl V.heap.size V)
          have hC := cells3_at V V.heap.size rfl (.slice jo jl jc) (.slice uo ul uc) (.bool G)
          go_wp2_with (with_reducible show wpList _ _ _ (⟨some 46, _, _, _, _, _⟩ :: _) _ _; refine wpList_one RE.stable RE.plain Try.underlying22 Try.info25 rfl (by omega) (by omega) rfl _ _ rfl w.heap.size (.slice bo n cb) acc rfl HL ⟨V.heap.size, 0, none⟩ 1 [.slice jo jl jc, .slice uo ul uc, .bool G] _ rfl hC HR hle hw8b ?_; intro ao5 n5 c5 w5 hn5 hls5 hof5 hsub5; clear hn5; have b5 := below_ent hls2 hb2 (Below.refl V.heap.size V) hof5; clear HL HR hC hw8b)
          go_roundw
          case rel => exact ⟨i + 1, ao5, n5, c5, by omega, rfl, by go_num, by rw [hyes.out]; exact hls5, b5⟩
          case measure => simp [intOf]; omega
        · have hz : ((tl : Int) == 0) = false := by simp [h0]
          have hp : 0 < ts.length := by omega
          cases F2 with
          | true =>
            have hyes : Hid ((m.take (i + 1)).filter (fun e => !delK fs ts e.k) = acc ++ [x]) := by show _ = _; rw [hst.out, hdel.out, hF1.out]; rw [hF2.out]; simp
            have htjl := tj.lt
            have htvl := tv.lt
            go_wp2_with fail
            refine wp_region_quiet_below (by kernel_rfl) (by kernel_rfl) ?_
            repeat (go_big_quiet_step (fail))
            (with_reducible refine wpQuiet_nil ?_)
            intro _ hw'
            obtain ⟨⟨dq, osq⟩, hw''⟩ := hw'
            subst hw''
            have bq := below_regrown wr dq osq
            have hb2 := hb.trans (bq.mono hb.size)
            have hls2 := hls.later RE.stable bq
            clear q0 s0 s1 s2 hls
            generalize grow (redrawn wr dq) osq = V at hb2 hls2 ⊢
            have d0 := cell_later hb2 c0
            have d1 := cell_later hb2 c1
            have d2 := cell_later hb2 c2
            have HL := ls_ent hls2 (Below.refl _ _) (.cells #[.slice jo jl jc, .slice uo ul uc, .bool G] 25)
            have HR := re_ent (e := x) (G := G) hls2 hG.out.symm (tj.later hb2) (tv.later hb2) (fun ad ha h0 => .inl (htjl ad ha h0)) (fun ad ha h0 => .inl (htvl ad ha h0)) (.cells #[.slice jo jl jc, .slice uo ul uc, .bool G] 25)
            have hw8b := size_ent (.cells #[.slice jo jl jc, .slice uo ul uc, .bool G] 25) hb2 (Below.refl V.heap.size V)
            have hC := cells3_at V V.heap.size rfl (.slice jo jl jc) (.slice uo ul uc) (.bool G)
            go_wp2_with (with_reducible show wpList _ _ _ (⟨some 46, _, _, _, _, _⟩ :: _) _ _; refine wpList_one RE.stable RE.plain Try.underlying22 Try.info25 rfl (by omega) (by omega) rfl _ _ rfl w.heap.size (.slice bo n cb) acc rfl HL ⟨V.heap.size, 0, none⟩ 1 [.slice jo jl jc, .slice uo ul uc, .bool G] _ rfl hC HR hle hw8b ?_; intro ao5 n5 c5 w5 hn5 hls5 hof5 hsub5; clear hn5; have b5 := below_ent hls2 hb2 (Below.refl V.heap.size V) hof5; clear HL HR hC hw8b)
            go_roundw
            case rel => exact ⟨i + 1, ao5, n5, c5, by omega, rfl, by go_num, by rw [hyes.out]; exact hls5, b5⟩
            case measure => simp [intOf]; omega
          | false =>
            have hno : Hid ((m.take (i + 1)).filter (fun e => !delK fs ts e.k) = acc) := by show _ = _; rw [hst.out, hdel.out, hF1.out, hF2.out]; simp [hp]
            go_wp2_with fail
            refine wp_region_quiet_below (by kernel_rfl) (by kernel_rfl) ?_
            repeat (go_big_quiet_step (fail))
            (with_reducible refine wpQuiet_nil ?_)
            intro _ hw'
            obtain ⟨⟨dq, osq⟩, hw''⟩ := hw'
            subst hw''
            have bq := below_regrown wr dq osq
            have hb2 := hb.trans (bq.mono hb.size)
            have hls2 := hls.later RE.stable bq
            clear q0 s0 s1 s2 hls
            generalize grow (redrawn wr dq) osq = V at hb2 hls2 ⊢
            go_wp2
            go_roundw
            case rel => exact ⟨i + 1, bo, n, cb, by omega, rfl, by go_num, by rw [hno.out]; exact hls2, hb2⟩
            case measure => simp [intOf]; omega
    · have hkI : ¬ (i : Int) < la := by omega
      have hil : i = la := by omega
      rw [hil, hall.out] at hls
      go_wp2
      go_ret
      exact ⟨bo, n, cb, rfl, hls.lx, hb⟩
end

section
set_option maxRecDepth 100000
open Go.RowKit Go.Sort

theorem getL_at {m : List Ent} {ks : List Int} : ∀ {k : Nat} {x : Ent}, m[k]? = some x → x.k = ks → (∀ y ∈ m.take k, ¬ y.k = ks) → getL m ks = some x := by
  induction m with
  | nil => intro k x h; simp at h
  | cons y m ih =>
    intro k x h hx hb
    cases k with
    | zero => simp at h; subst h; simp [getL, hx]
    | succ k =>
      have h1 : ¬ y.k = ks := hb y (by simp)
      have h2 := ih (k := k) (x := x) (by simpa using h) hx (fun z hz => hb z (by simp [hz]))
      simp only [getL] at h2 ⊢
      rw [List.find?_cons_of_neg (by simpa using h1)]
      exact h2

set_option maxHeartbeats 8000000 in
theorem rget_any (ao : Option Addr) (la ca : Nat) (m : List Ent) (bo : Option Addr) (lb cb : Nat) (ks : List Int) (w : World) (h : Lx 3 RE w ao la ca m) (hk : Tx w bo lb cb ks) (sm : la ≤ 1000000) :
    Calls Try.prog 65 #[.slice ao la ca, .slice bo lb cb] w fun e w' => GetPost w m ks e w' := by
  have hl := h.len_eq
  have b0 : Below w.heap.size w (w.alloc (.cells #[.slice none 0 0, .slice none 0 0, .bool false] 25)) := (Below.refl _ _).alloc (Nat.le_refl _) _
  have bx0 := Boxf.new' w (.slice none 0 0) (.slice none 0 0) false
  go_enter Try.func65, Try.ntmps65
  go_wp2_with fail
  generalize w.alloc (.cells #[.slice none 0 0, .slice none 0 0, .bool false] 25) = V0 at b0 bx0 ⊢
  go_loopw [6] (fun s6 wr => ∃ k : Nat, k ≤ la ∧ s6 = .int .i64 k ∧ Hid (∀ y ∈ m.take k, ¬ y.k = ks) ∧ Below w.heap.size w wr ∧ Boxf wr w.heap.size (.slice none 0 0) (.slice none 0 0) false) (fun s6 _ => la - (intOf s6).toNat)
  case atStart => exact ⟨0, by omega, rfl, by show ∀ y ∈ _, _; simp, b0, bx0⟩
  case round =>
    obtain ⟨k, hk9, rfl, hbef, hb, bxr⟩ := hrel
    by_cases hk2 : k < la
    · obtain ⟨mb, mf, rfl, hc⟩ := h.headE (by omega)
      have hxi : m[k]? = some (m[k]'(by omega)) := by simp
      obtain ⟨jo, jl, jc, uo, ul, uc, c0, c1, c2, tj, tv⟩ := hc k _ hxi
      have hX : Hid (m[k]? = some (m[k]'(by omega))) := hxi
      have htk := take_snoc m k _ hxi
      clear hc hxi
      generalize m[k]'(by omega) = x at c2 tj tv hX htk
      have htkH : Hid (m.take (k + 1) = m.take k ++ [x]) := htk
      clear htk
      obtain ⟨G, hG⟩ : ∃ G, Hid (x.g = G) := ⟨_, rfl⟩
      rw [hG.out] at c2
      have q0 := fun d os => cell_regrown (cell_later hb c0) d os
      have s0 := fun d os => ((tj.later hb).later (below_regrown wr d os)).string
      have s1 := fun d os => ((hk.later hb).later (below_regrown wr d os)).string
      have hki : (k : Int) < la := by omega
      by_cases he : x.k = ks
      · have hyes : Hid (getL m ks = some x) := getL_at hX.out he hbef.out
        rw [he] at s0
        generalize strOfNums ks = SK at s0 s1
        have hSe : (SK.toList == SK.toList) = true := by simp
        go_wp2_with fail
        refine wp_region_quiet_below (by kernel_rfl) (by kernel_rfl) ?_
        repeat (go_big_quiet_step (fail))
        (with_reducible refine wpQuiet_nil ?_)
        intro _ hw'
        obtain ⟨⟨dq, osq⟩, hw''⟩ := hw'
        subst hw''
        have bq := below_regrown wr dq osq
        have hb2 := hb.trans (bq.mono hb.size)
        have bx3 := bxr.off (S := []) (.of_below bq) (by simp)
        clear q0 s0 s1
        generalize grow (redrawn wr dq) osq = V3 at hb2 bx3 ⊢
        have d0 := cell_later hb2 c0
        have d1 := cell_later hb2 c1
        have d2 := cell_later hb2 c2
        have q := box_set V3 w.heap.size (.slice jo jl jc) (.slice uo ul uc) _ _ bx3 (.bool G)
        have z0 := bx3.z 0
        have z1 := bx3.z 1
        have z2 := bx3.z 2
        obtain ⟨x0, x1, x2, _⟩ := bx3
        have hend := get_hit hG.out hyes.out (fun ad ha h0 => Nat.ne_of_lt (tj.lt ad ha h0)) (fun ad ha h0 => Nat.ne_of_lt (tv.lt ad ha h0)) (tj.later hb2) (tv.later hb2) hb2
        go_wp2
        generalize ((V3.setCell ⟨w.heap.size, 0, none⟩ (.slice jo jl jc)).setCell ⟨w.heap.size, 1, none⟩ (.slice uo ul uc)).setCell ⟨w.heap.size, 2, none⟩ (.bool G) = F at q hend ⊢
        obtain ⟨q0, q1, q2⟩ := q
        exact bodyPost_ret (v := .tuple #[.agg #[.slice jo jl jc, .slice uo ul uc, .bool G], .bool true]) (by simp [results, Try.results65, go_sem, q0, q1, q2]) rfl hend
      · have hne := str_ne tj.rng hk.rng he
        have hb9 : Hid (∀ y ∈ m.take (k + 1), ¬ y.k = ks) := by
          show ∀ y ∈ _, _
          rw [htkH.out]
          intro y hy
          rcases List.mem_append.1 hy with hy | hy
          · exact hbef.out y hy
          · simp at hy; subst hy; exact he
        generalize strOfNums x.k = SK at s0 hne
        generalize strOfNums ks = SV at s1 hne
        have hSn : (SK.toList == SV.toList) = false := by simpa using hne
        go_wp2_with fail
        refine wp_region_quiet_below (by kernel_rfl) (by kernel_rfl) ?_
        repeat (go_big_quiet_step (fail))
        (with_reducible refine wpQuiet_nil ?_)
        intro _ hw'
        obtain ⟨⟨dq, osq⟩, hw''⟩ := hw'
        subst hw''
        have bq := below_regrown wr dq osq
        have hb2 := hb.trans (bq.mono hb.size)
        have bx3 := bxr.off (S := []) (.of_below bq) (by simp)
        clear q0 s0 s1
        generalize grow (redrawn wr dq) osq = V3 at hb2 bx3 ⊢
        go_wp2
        go_roundw
        case rel => exact ⟨k + 1, by omega, by go_num, hb9, hb2, bx3⟩
        case measure => simp [intOf]; omega
    · have hki : ¬ (k : Int) < la := by omega
      have hno : Hid (getL m ks = none) := getL_none (fun e he => hbef.out e (by rw [List.take_of_length_le (by omega)]; exact he))
      have q := box_set wr w.heap.size (.slice none 0 0) (.slice none 0 0) _ _ bxr (.bool false)
      have z0 := bxr.z 0
      have z1 := bxr.z 1
      have z2 := bxr.z 2
      obtain ⟨x0, x1, x2, _⟩ := bxr
      have hend := get_miss (w := w) (V := wr) hno.out hb
      go_wp2
      generalize ((wr.setCell ⟨w.heap.size, 0, none⟩ (.slice none 0 0)).setCell ⟨w.heap.size, 1, none⟩ (.slice none 0 0)).setCell ⟨w.heap.size, 2, none⟩ (.bool false) = F at q hend ⊢
      obtain ⟨q0, q1, q2⟩ := q
      exact bodyPost_ret (v := .tuple #[.agg #[.slice none 0 0, .slice none 0 0, .bool false], .bool false]) (by simp [results, Try.results65, go_sem, q0, q1, q2]) rfl hend
end

section
set_option maxRecDepth 100000
open Go.RowKit Go.Sort

theorem lastK_flat : ∀ (ls : List (List Ent)) (p : List Int) (l : List Ent), ls.getLast? = some l → 1 ≤ l.length → lastK p ls.flatten = lastK [] l
  | [], _, _, h, _ => by simp at h
  | [a], p, l, h, h1 => by
    simp at h; subst h
    simp only [List.flatten_cons, List.flatten_nil, List.append_nil]
    cases a with
    | nil => simp at h1
    | cons e a => rfl
  | a :: b :: ls, p, l, h, h1 => by
    rw [List.flatten_cons, lastK_app]
    exact lastK_flat (b :: ls) _ l (by simpa using h) h1
theorem PkR.last {m : List Ent} {ps : List Pk} {ls : List (List Ent)} (h : PkR m ps ls) (h0 : 0 < ps.length) : (ps.getLast?.map (·.2)).getD [] = lastK [] m := by
  have hp : ps[ps.length - 1]? = some (ps[ps.length - 1]'(by omega)) := by simp
  obtain ⟨l, hl, h1, h2, h3, _⟩ := h.blk hp
  rw [List.getLast?_eq_getElem?, hp, h.fl, lastK_flat ls [] l (by rw [List.getLast?_eq_getElem?, h.len]; exact hl) h3]
  exact h2
theorem PkR.first {m : List Ent} {ps : List Pk} {ls : List (List Ent)} (h : PkR m ps ls) {p : Pk} (hp : ps[0]? = some p) : ∃ e, m[0]? = some e ∧ seekL (entsOf p.1) [] = some e := by
  obtain ⟨l, hl, h1, _, h3, _⟩ := h.blk hp
  have e0 : l[0]? = some (l[0]'(by omega)) := by simp
  refine ⟨l[0]'(by omega), ?_, ?_⟩
  · rw [h.fl]
    cases ls with
    | nil => simp at hl
    | cons a r =>
      simp at hl
      subst hl
      rw [List.flatten_cons, List.getElem?_append_left (by omega)]
      exact e0
  · have he : entsOf p.1 = l := by unfold entsOf; rw [h1]; rfl
    rw [he]
    refine seek_at l [] 0 _ e0 (fun j y hj => (by omega)) ?_
    cases (l[0]'(by omega)).k <;> rfl

set_option maxHeartbeats 4000000 in
theorem tbounds_any (pb : Nat) (m : List Ent) (w : World) (h : Tb w pb m) (hm : 1 ≤ m.length) :
    Calls Try.prog 66 #[.pointer (some ⟨pb, 0, none⟩)] w fun e w' => ∃ o1 l1 c1 o2 l2 c2, e = .returned (.tuple #[.slice o1 l1 c1, .slice o2 l2 c2]) ∧ Tx w' o1 l1 c1 (m[0]'(by omega)).k ∧ Tx w' o2 l2 c2 (lastK [] m) ∧ Below w.heap.size w w' := by
  obtain ⟨ps, ls, ro, rl, rc, ht, hpk⟩ := h
  have hrl := ht.row.len_eq
  have hrl1 : 0 < rl := by have := hpk.cnt; omega
  obtain ⟨rb, rf, rfl, hc⟩ := ht.row.headP hrl1
  have hx : ps[0]? = some (ps[0]'(by omega)) := by simp
  obtain ⟨to, tl, tc, lo, ll, lc, d0, d1, tt, tL⟩ := hc 0 _ hx
  have hsz := hpk.sz _ (List.getElem_mem (l := ps) (n := 0) (by omega))
  obtain ⟨e0, he0, hs0⟩ := hpk.first hx
  have hm0 : m[0]'(by omega) = e0 := by
    have := (List.getElem?_eq_some_iff.1 he0)
    exact this.2
  rw [hm0]
  have hla := hpk.last (by omega)
  generalize ps[0]'(by omega) = p at hx tt tL hsz hs0
  rw [tt.len_eq] at hsz
  simp only [Nat.zero_mul, Nat.add_zero] at d0
  have c0 := ht.c0
  have hsk := seek_any to tl tc p.1 none 0 0 [] w tt (Tx.nil w) hsz (by omega)
  have hk255 : (lastK [] m).length ≤ 255 := okL_last255 m [] hpk.ok (by simp)
  go_enter Try.func66, Try.ntmps66
  go_wp2_with fail
  with_reducible refine hsk.mono ?_
  clear hsk
  rintro e W1 ⟨⟨en, ko, kl, kc, vo, vl, vc, hs, rfl, tk, tv⟩ | ⟨hs, _⟩, b1⟩
  rotate_left
  · rw [hs0] at hs; cases hs
  · rw [hs0] at hs
    cases hs
    obtain ⟨G, hG⟩ : ∃ G, Hid (e0.g = G) := ⟨_, rfl⟩
    rw [hG.out]
    have bx := Box.new W1 (.slice ko kl kc) (.slice vo vl vc) G
    have b2 : Below W1.heap.size W1 (W1.alloc (.cells #[.slice ko kl kc, .slice vo vl vc, .bool G] 25)) := (Below.refl _ _).alloc (Nat.le_refl _) _
    have tk2 := tk.later b2
    have ht2 := (ht.later b1).later b2
    have bw2 := b1.trans (b2.mono b1.size)
    clear tk tv hc
    go_wp2_with fail
    generalize W1.alloc (.cells #[.slice ko kl kc, .slice vo vl vc, .bool G] 25) = W2 at bx b2 tk2 ht2 bw2 ⊢
    obtain ⟨y0, _, _⟩ := bx
    have q0 := fun (W : World) (hb : Below W2.heap.size W2 W) => cell_later hb y0
    have hl := fun (W : World) (hb : Below W2.heap.size W2 W) => tlast_any pb ps m.length (some ⟨rb, rf, none⟩) rl rc W (ht2.later hb)
    rw [hla] at hl
    go_region_held (fun w' => Below W2.heap.size W2 w') (first | assumption | exact (Below.refl _ _).drew) (first
      | (go_at_call 69; go_loud (with_reducible refine (hl _ (by first | assumption | exact (Below.refl _ _).drew)).mono ?_; rintro e W3 ⟨lo3, ll3, lc3, rfl, t3, b3⟩; have B3 := below_tr2 (a := W2) (by first | assumption | exact (Below.refl _ _).drew) b3; have q3 := q0 _ B3; have hc3 := bclone_any lo3 ll3 lc3 _ W3 (t3.later b3) (by have := t3.len_eq; omega)))
      | (go_at_call 43; with_reducible refine hc3.mono ?_; rintro e W4 ⟨bo4, cb4, rfl, t4, f4, b4⟩; have B4 := below_tr2 (a := W2) (by assumption) b4; have q4 := q0 _ B4; have tk4 := tk2.later B4))
    go_wp2
    go_ret2
    exact ⟨ko, kl, kc, bo4, ll3, cb4, rfl, tk4, t4, bw2.trans (B4.mono bw2.size)⟩
end

section
set_option maxRecDepth 100000
open Go.RowKit Go.Sort

theorem GetPost.hit {w w' : World} {m : List Ent} {ks : List Int} {e : Ending} {en : Ent} {G : Bool} (h : GetPost w m ks e w') (hg : getL m ks = some en) (hG : en.g = G) : ∃ ko kl kc vo vl vc, e = .returned (.tuple #[.agg #[.slice ko kl kc, .slice vo vl vc, .bool G], .bool true]) ∧ Tx w' ko kl kc en.k ∧ Tx w' vo vl vc en.v ∧ Below w.heap.size w w' := by
  obtain ⟨⟨en', ko, kl, kc, vo, vl, vc, h1, h2, h3, h4⟩ | ⟨h1, _⟩, b⟩ := h
  · rw [hg] at h1; cases h1; subst hG; exact ⟨ko, kl, kc, vo, vl, vc, h2, h3, h4, b⟩
  · rw [hg] at h1; cases h1
theorem GetPost.miss {w w' : World} {m : List Ent} {ks : List Int} {e : Ending} (h : GetPost w m ks e w') (hg : getL m ks = none) : e = .returned (.tuple #[.agg #[.slice none 0 0, .slice none 0 0, .bool false], .bool false]) ∧ Below w.heap.size w w' := by
  obtain ⟨⟨en', ko, kl, kc, vo, vl, vc, h1, _⟩ | ⟨_, h2⟩, b⟩ := h
  · rw [hg] at h1; cases h1
  · exact ⟨h2, b⟩

set_option maxHeartbeats 16000000 in
theorem asks_any (pb : Nat) (ao : Option Addr) (la ca : Nat) (m : List Ent) (fo : Option Addr) (fl fc : Nat) (fs : List Int) (to : Option Addr) (tl tc : Nat) (ts : List Int) (w : World) (hT : Tb w pb m) (hL : Lx 3 RE w ao la ca m) (hf : Tx w fo fl fc fs) (ht : Tx w to tl tc ts) (sm : la ≤ 1000000) (sf : fl ≤ 900000000) (st : tl ≤ 900000000) (hm : 1 ≤ m.length) :
    Calls Try.prog 39 #[.pointer (some ⟨pb, 0, none⟩), .slice ao la ca, .slice fo fl fc, .slice to tl tc] w fun e w' => e = .returned (.bool true) ∧ Below w.heap.size w w' := by
  have hl := hL.len_eq
  have hla : 0 < la := by omega
  obtain ⟨bb, bf, rfl, hc⟩ := hL.headE hla
  have hsame : sameL m m = true := (sameL_iff m m).2 rfl
  have hsame1 : ∀ l : List Ent, sameL l l = true := fun l => (sameL_iff l l).2 rfl
  have n1 := tlen_any pb m w hT
  have n2 := tblocks_any pb m w hT
  rw [hl] at n1
  have hw1 : IntKind.i64.wrap ((la : Int) + 8) = (la : Int) + 8 := by rw [IntKind.wrap_i64]; omega
  have hw2 : IntKind.i64.wrap ((la : Int) + 8 - 1) = (la : Int) + 8 - 1 := by rw [IntKind.wrap_i64]; omega
  have n3 := tall_any pb m w hT
  clear hl
  go_enter Try.func39, Try.ntmps39
  go_wp2_with fail
  with_reducible refine n1.mono ?_
  clear n1
  rintro e1 w1 ⟨rfl, h1⟩
  replace h1 := h1.symm
  subst h1
  go_wp2_with fail
  with_reducible refine n2.mono ?_
  clear n2
  rintro e2 w1 ⟨n, hn, rfl, h1⟩
  replace h1 := h1.symm
  subst h1
  have hn' := hn.out
  have hl := hL.len_eq
  have hq1 : ((la : Int) + 8 - 1) / 8 = (n : Int) := by omega
  have hml : m.length ≤ 1000000 := by omega
  clear hn' hn hl
  go_wp2_with fail
  with_reducible refine n3.mono ?_
  clear n3
  rintro e3 w1 ⟨o1, l1, c1, rfl, x1, b1⟩
  have n4 := same8_any o1 (some ⟨bb, bf, none⟩) l1 c1 la ca m m w1 x1 (hL.later RE.stable b1) (by have := x1.len_eq; omega) sm
  go_wp2_with fail
  with_reducible refine n4.mono ?_
  clear n4
  rw [hsame1]
  rintro e4 w2 ⟨rfl, b2⟩
  replace b2 := b1.trans (b2.mono b1.size)
  have n5 := range_any pb m fo fl fc fs to tl tc ts w2 (hT.later b2) (hf.later b2) (ht.later b2) sf st hm
  go_wp2_with fail
  with_reducible refine n5.mono ?_
  clear n5 x1 b1
  rintro e5 w3 ⟨o3, l3, c3, rfl, x3, b3⟩
  replace b3 := b2.trans (b3.mono b2.size)
  have n6 := rrange_any (some ⟨bb, bf, none⟩) la ca m fo fl fc fs to tl tc ts w3 (hL.later RE.stable b3) (hf.later b3) (ht.later b3) sm
  go_wp2_with fail
  with_reducible refine n6.mono ?_
  clear n6 b2
  rintro e6 w4 ⟨o4, l4, c4, rfl, x4, b4⟩
  have n7 := same8_any o3 o4 l3 c3 l4 c4 _ _ w4 (x3.later RE.stable b4) x4 (by have := x3.len_eq; have := List.length_filter_le (fun e => !delK fs ts e.k) m; omega) (by have := x4.len_eq; have := List.length_filter_le (fun e => !delK fs ts e.k) m; omega)
  replace b4 := b3.trans (b4.mono b3.size)
  go_wp2_with fail
  with_reducible refine n7.mono ?_
  clear n7 x3 x4 b3
  rw [hsame1]
  rintro e7 w5 ⟨rfl, b5⟩
  replace b5 := b4.trans (b5.mono b4.size)
  clear b4
  have n8 := range_any pb m fo fl fc fs none 0 0 [] w5 (hT.later b5) (hf.later b5) (Tx.nil _) sf (by omega) hm
  go_wp2_with fail
  with_reducible refine n8.mono ?_
  clear n8
  rintro e8 w6 ⟨o6, l6, c6, rfl, x6, b6⟩
  replace b6 := b5.trans (b6.mono b5.size)
  have n9 := rrange_any (some ⟨bb, bf, none⟩) la ca m fo fl fc fs none 0 0 [] w6 (hL.later RE.stable b6) (hf.later b6) (Tx.nil _) sm
  go_wp2_with fail
  with_reducible refine n9.mono ?_
  clear n9 b5
  rintro e9 w7 ⟨o7, l7, c7, rfl, x7, b7⟩
  have n10 := same8_any o6 o7 l6 c6 l7 c7 _ _ w7 (x6.later RE.stable b7) x7 (by have := x6.len_eq; have := List.length_filter_le (fun e => !delK fs [] e.k) m; omega) (by have := x7.len_eq; have := List.length_filter_le (fun e => !delK fs [] e.k) m; omega)
  replace b7 := b6.trans (b7.mono b6.size)
  go_wp2_with fail
  with_reducible refine n10.mono ?_
  clear n10 x6 x7 b6
  rw [hsame1]
  rintro e10 w8 ⟨rfl, b8⟩
  replace b8 := b7.trans (b8.mono b7.size)
  clear b7 hq1 hw1 hw2
  have m1 := tget_any pb m fo fl fc fs w8 (hT.later b8) (hf.later b8) sf
  cases hg : getL m fs with
  | some en =>
    obtain ⟨G, hG⟩ : ∃ G, en.g = G := ⟨_, rfl⟩
    go_wp2_with fail
    with_reducible refine m1.mono ?_
    clear m1
    rintro e11 w9 p9
    obtain ⟨ko, kl, kc, vo, vl, vc, rfl, tk, tv, b9⟩ := p9.hit hg hG
    clear p9
    replace b9 := b8.trans (b9.mono b8.size)
    clear b8
    have bx := Boxf.new' w9 (.slice ko kl kc) (.slice vo vl vc) G
    have bA : Below w.heap.size w (w9.alloc (.cells #[.slice ko kl kc, .slice vo vl vc, .bool G] 25)) := b9.alloc b9.size _
    have bA9 : Below w9.heap.size w9 (w9.alloc (.cells #[.slice ko kl kc, .slice vo vl vc, .bool G] 25)) := (Below.refl _ _).alloc (Nat.le_refl _) _
    have m2 := rget_any (some ⟨bb, bf, none⟩) la ca m fo fl fc fs _ (hL.later RE.stable bA) (hf.later bA) sm
    go_wp2_with fail
    generalize w9.alloc (.cells #[.slice ko kl kc, .slice vo vl vc, .bool G] 25) = V1 at bx bA bA9 m2 ⊢
    with_reducible refine m2.mono ?_
    clear m2
    rintro e12 w10 p10
    obtain ⟨ko', kl', kc', vo', vl', vc', rfl, tk', tv', b10⟩ := p10.hit hg hG
    have tk := (tk.later bA9).later b10
    have tv := (tv.later bA9).later b10
    clear p10
    have bx10 := bx.off (S := []) (.of_below b10) (by simp)
    have bx' := Boxf.new' w10 (.slice ko' kl' kc') (.slice vo' vl' vc') G
    have bB : Below w.heap.size w (w10.alloc (.cells #[.slice ko' kl' kc', .slice vo' vl' vc', .bool G] 25)) := (bA.trans (b10.mono bA.size)).alloc (Nat.le_trans bA.size b10.size) _
    have bB10 : Below w10.heap.size w10 (w10.alloc (.cells #[.slice ko' kl' kc', .slice vo' vl' vc', .bool G] 25)) := (Below.refl _ _).alloc (Nat.le_refl _) _
    have bx11 := bx10.off (S := []) (.of_below bB10) (by simp)
    have m3 := tbounds_any pb m _ (hT.later bB) hm
    go_wp2_with fail
    have tk1 := tk.later bB10
    have tv1 := tv.later bB10
    have tk2 := tk'.later bB10
    have tv2 := tv'.later bB10
    clear bB10
    have hgx : w9.heap.size ≠ w10.heap.size := by have h1 := bx10.lt; omega
    generalize w10.heap.size = g2 at bx' bx11 hgx ⊢
    generalize w10.alloc (.cells #[.slice ko' kl' kc', .slice vo' vl' vc', .bool G] 25) = V2 at bx' bB bx11 m3 tk1 tv1 tk2 tv2 ⊢
    with_reducible refine m3.mono ?_
    clear m3
    rintro e13 w11 ⟨p1, q1, r1, p2, q2, r2, rfl, t1, t2, b11⟩
    have bT := bB.trans (b11.mono bB.size)
    have bz := bx11.off (S := []) (.of_below b11) (by simp)
    have bz' := bx'.off (S := []) (.of_below b11) (by simp)
    replace tk1 := tk1.later b11
    replace tv1 := tv1.later b11
    replace tk2 := tk2.later b11
    replace tv2 := tv2.later b11
    have s1 := fun d os => (tk1.later (below_regrown w11 d os)).string
    have s2 := fun d os => (tv1.later (below_regrown w11 d os)).string
    have s3 := fun d os => (tk2.later (below_regrown w11 d os)).string
    have s4 := fun d os => (tv2.later (below_regrown w11 d os)).string
    have hx0 : m[0]? = some (m[0]'(by omega)) := by simp
    generalize m[0]'(by omega) = x0 at t1 hx0
    obtain ⟨ko5, kl5, kc5, vo5, vl5, vc5, c50, _, _, t5, _⟩ := hc 0 _ hx0
    have hlm := hL.len_eq
    obtain ⟨xl, hxl⟩ : ∃ xl, m[la - 1]? = some xl := ⟨m[la - 1]'(by omega), by simp⟩
    obtain ⟨ko6, kl6, kc6, vo6, vl6, vc6, c60, _, _, t6, _⟩ := hc (la - 1) _ hxl
    have hlk := lastK_of m [] xl (by rw [hlm]; exact hxl)
    rw [hlk] at t2
    rw [show bf + 0 * 3 = bf by omega] at c50
    have c50 := fun d os => cell_regrown (cell_later bT c50) d os
    have c60 := fun d os => cell_regrown (cell_later bT c60) d os
    have s5 := fun d os => (t1.later (below_regrown w11 d os)).string
    have s6 := fun d os => (t2.later (below_regrown w11 d os)).string
    have s7 := fun d os => ((t5.later bT).later (below_regrown w11 d os)).string
    have s8 := fun d os => ((t6.later bT).later (below_regrown w11 d os)).string
    have z0 := fun d os => cell_regrown bz.c0 d os
    have z1 := fun d os => cell_regrown bz.c1 d os
    have z2 := fun d os => cell_regrown bz.c2 d os
    have y0 := fun d os => cell_regrown bz'.c0 d os
    have y1 := fun d os => cell_regrown bz'.c1 d os
    have y2 := fun d os => cell_regrown bz'.c2 d os
    have hi1 : (la : Int) - 1 = ((la - 1 : Nat) : Int) := by omega
    have hi2 : ((la - 1 : Nat) : Int) < (la : Int) := by omega
    have hi3 : la - 1 < la := by omega
    have hi4 : (0 : Int) < (la : Int) := by omega
    generalize strOfNums x0.k = SF at s5 s7
    generalize strOfNums xl.k = SL at s6 s8
    generalize strOfNums en.k = SK at s1 s3
    generalize strOfNums en.v = SV at s2 s4
    clear hc hlm hx0 hxl hlk t1 t2 t5 t6 bz bz' bx11 bx' hL hT hf ht bA bA9 bB b10 b11 bx bx10 hgx b9 hg hm hml hsame hsame1
    go_wp2_with fail
    refine wp_region_quiet_below (by kernel_rfl) (by kernel_rfl) ?_
    repeat (go_big_quiet_step (fail))
    (with_reducible refine wpQuiet_nil ?_)
    intro _ hw'
    obtain ⟨⟨dq, osq⟩, hw''⟩ := hw'
    subst hw''
    have hbq := bT.trans ((below_regrown w11 dq osq).mono bT.size)
    go_wp2
    go_ret
    exact ⟨rfl, hbq⟩
  | none =>
    go_wp2_with fail
    with_reducible refine m1.mono ?_
    clear m1
    rintro e11 w9 p9
    obtain ⟨rfl, b9⟩ := p9.miss hg
    clear p9
    replace b9 := b8.trans (b9.mono b8.size)
    clear b8
    have bx := Boxf.new' w9 (.slice none 0 0) (.slice none 0 0) false
    have bA : Below w.heap.size w (w9.alloc (.cells #[.slice none 0 0, .slice none 0 0, .bool false] 25)) := b9.alloc b9.size _
    have bA9 : Below w9.heap.size w9 (w9.alloc (.cells #[.slice none 0 0, .slice none 0 0, .bool false] 25)) := (Below.refl _ _).alloc (Nat.le_refl _) _
    have m2 := rget_any (some ⟨bb, bf, none⟩) la ca m fo fl fc fs _ (hL.later RE.stable bA) (hf.later bA) sm
    go_wp2_with fail
    generalize w9.alloc (.cells #[.slice none 0 0, .slice none 0 0, .bool false] 25) = V1 at bx bA bA9 m2 ⊢
    with_reducible refine m2.mono ?_
    clear m2
    rintro e12 w10 p10
    obtain ⟨rfl, b10⟩ := p10.miss hg
    clear p10
    have bx10 := bx.off (S := []) (.of_below b10) (by simp)
    have bx' := Boxf.new' w10 (.slice none 0 0) (.slice none 0 0) false
    have bB : Below w.heap.size w (w10.alloc (.cells #[.slice none 0 0, .slice none 0 0, .bool false] 25)) := (bA.trans (b10.mono bA.size)).alloc (Nat.le_trans bA.size b10.size) _
    have bB10 : Below w10.heap.size w10 (w10.alloc (.cells #[.slice none 0 0, .slice none 0 0, .bool false] 25)) := (Below.refl _ _).alloc (Nat.le_refl _) _
    have bx11 := bx10.off (S := []) (.of_below bB10) (by simp)
    have m3 := tbounds_any pb m _ (hT.later bB) hm
    go_wp2_with fail
    clear bB10
    have hgx : w9.heap.size ≠ w10.heap.size := by have h1 := bx10.lt; omega
    generalize w10.heap.size = g2 at bx' bx11 hgx ⊢
    generalize w10.alloc (.cells #[.slice none 0 0, .slice none 0 0, .bool false] 25) = V2 at bx' bB bx11 m3  ⊢
    with_reducible refine m3.mono ?_
    clear m3
    rintro e13 w11 ⟨p1, q1, r1, p2, q2, r2, rfl, t1, t2, b11⟩
    have bT := bB.trans (b11.mono bB.size)
    have bz := bx11.off (S := []) (.of_below b11) (by simp)
    have bz' := bx'.off (S := []) (.of_below b11) (by simp)
    have s1 := fun d os => (((Tx.nil w11)).later (below_regrown w11 d os)).string
    have hx0 : m[0]? = some (m[0]'(by omega)) := by simp
    generalize m[0]'(by omega) = x0 at t1 hx0
    obtain ⟨ko5, kl5, kc5, vo5, vl5, vc5, c50, _, _, t5, _⟩ := hc 0 _ hx0
    have hlm := hL.len_eq
    obtain ⟨xl, hxl⟩ : ∃ xl, m[la - 1]? = some xl := ⟨m[la - 1]'(by omega), by simp⟩
    obtain ⟨ko6, kl6, kc6, vo6, vl6, vc6, c60, _, _, t6, _⟩ := hc (la - 1) _ hxl
    have hlk := lastK_of m [] xl (by rw [hlm]; exact hxl)
    rw [hlk] at t2
    rw [show bf + 0 * 3 = bf by omega] at c50
    have c50 := fun d os => cell_regrown (cell_later bT c50) d os
    have c60 := fun d os => cell_regrown (cell_later bT c60) d os
    have s5 := fun d os => (t1.later (below_regrown w11 d os)).string
    have s6 := fun d os => (t2.later (below_regrown w11 d os)).string
    have s7 := fun d os => ((t5.later bT).later (below_regrown w11 d os)).string
    have s8 := fun d os => ((t6.later bT).later (below_regrown w11 d os)).string
    have z0 := fun d os => cell_regrown bz.c0 d os
    have z1 := fun d os => cell_regrown bz.c1 d os
    have z2 := fun d os => cell_regrown bz.c2 d os
    have y0 := fun d os => cell_regrown bz'.c0 d os
    have y1 := fun d os => cell_regrown bz'.c1 d os
    have y2 := fun d os => cell_regrown bz'.c2 d os
    have hi1 : (la : Int) - 1 = ((la - 1 : Nat) : Int) := by omega
    have hi2 : ((la - 1 : Nat) : Int) < (la : Int) := by omega
    have hi3 : la - 1 < la := by omega
    have hi4 : (0 : Int) < (la : Int) := by omega
    generalize strOfNums x0.k = SF at s5 s7
    generalize strOfNums xl.k = SL at s6 s8
    clear hc hlm hx0 hxl hlk t1 t2 t5 t6 bz bz' bx11 bx' hL hT hf ht bA bA9 bB b10 b11 bx bx10 hgx b9 hg hm hml hsame hsame1
    go_wp2_with fail
    refine wp_region_quiet_below (by kernel_rfl) (by kernel_rfl) ?_
    repeat (go_big_quiet_step (fail))
    (with_reducible refine wpQuiet_nil ?_)
    intro _ hw'
    obtain ⟨⟨dq, osq⟩, hw''⟩ := hw'
    subst hw''
    have hbq := bT.trans ((below_regrown w11 dq osq).mono bT.size)
    go_wp2
    go_ret
    exact ⟨rfl, hbq⟩
end

end Go.Proofs.Yteeemfohehpaeaa
