/- The walk of TableBack. -/
import Derived.Test.YteeemfohehpaeaaTRanges
import Derived.Test.YteeemfohehpaeaaTRanX
import Derived.Test.YteeemfohehpaeaaFWalksI
namespace Go.Proofs.Yteeemfohehpaeaa
set_option maxRecDepth 100000
open Go.RowKit Go.Sort

theorem split_sorted (p : Ent → Bool) : ∀ (m : List Ent), m.Pairwise (fun a b => p b = true → p a = true) → m.filter p ++ m.filter (fun e => !p e) = m
  | [], _ => rfl
  | a :: m, h => by
    obtain ⟨h1, h2⟩ := List.pairwise_cons.1 h
    have ih := split_sorted p m h2
    cases hp : p a with
    | true => simp [hp, ih]
    | false =>
      have hn : ∀ b ∈ m, p b = false := fun b hb => by
        cases hb2 : p b with
        | false => rfl
        | true => rw [h1 b hb hb2] at hp; cases hp
      have e1 : m.filter p = [] := List.filter_eq_nil_iff.2 (fun b hb => by simp [hn b hb])
      have e2 : m.filter (fun e => !p e) = m := List.filter_eq_self.2 (fun b hb => by simp [hn b hb])
      simp [hp, e1, e2]
theorem less_nil (a : List Int) : lessB a [] = false := by cases a <;> rfl
theorem two_ranges (m : List Ent) (ks : List Int) (ho : okL [] m = true) (hk : 0 < ks.length) : m.filter (fun e => !delK [] ks e.k) ++ m.filter (fun e => !delK ks [] e.k) = m := by
  have e1 : m.filter (fun e => !delK [] ks e.k) = m.filter (fun e => lessB e.k ks) := by
    congr 1
    funext e
    simp [delK, less_nil, hk]
  have e2 : m.filter (fun e => !delK ks [] e.k) = m.filter (fun e => !lessB e.k ks) := by
    congr 1
    funext e
    simp [delK]
  rw [e1, e2]
  exact split_sorted (fun e => lessB e.k ks) m ((okL_pw m [] ho).imp (fun h h2 => lessB_trans _ _ _ h h2))
theorem gr_one (w : World) (x : Int) (h : 0 ≤ x ∧ x ≤ 255) : Gr w.heap.size (w.alloc (.cells #[.int .u8 x] 5)) (some ⟨w.heap.size, 0, none⟩) 1 1 [x] :=
  ⟨⟨rfl, .inr ⟨w.heap.size, 1, _, rfl, Nat.le_refl _, heap_alloc_new w _, Nat.le_refl _, by unfold maxLen; omega, rfl, rfl⟩⟩, fun y hy => by simp at hy; subst hy; exact h, by simp⟩
theorem same_self (m : List Ent) : sameL m m = true := (sameL_iff m m).2 rfl

set_option maxHeartbeats 16000000 in
theorem tback_walk (ao : Option Addr) (la ca : Nat) (l : List Ent) (ko : Option Addr) (lk ck : Nat) (key : List Int) (w : World) (hl : Lx 3 RE w ao la ca l) (hk : Tx w ko lk ck key) :
    Calls Try.prog 7 #[.slice ao la ca, .slice ko lk ck] w fun e w' => e = .returned (.bool true) ∧ Below w.heap.size w w' := by
  have hD := drawn_of 60 8 12 (by omega) (by omega) (by omega) l
  have hkp := keep_any ao la ca l 60 8 12 60 8 12 rfl rfl rfl (by omega) (by omega) (by omega) w hl
  have hri := fun (bo : Option Addr) (lb cb : Nat) (W : World) (h : Lx 3 RE W bo lb cb (keepL 60 8 12 l)) => rise_any bo lb cb _ W h (by have h1 := h.len_eq; simp only [keepL, List.length_map, List.length_take] at h1; omega)
  generalize riseL (keepL 60 8 12 l) = m at hD hri
  generalize keepL 60 8 12 l = kp at hkp hri
  go_enter Try.func7, Try.ntmps7
  go_wp2_with (first
    | (go_at_call 14; with_reducible refine hkp.mono ?_; rintro e W1 ⟨o1, l1, c1, rfl, x1, b1⟩; clear hkp; have hri1 := hri o1 l1 c1 W1 x1))
  with_reducible refine hri1.mono ?_
  rintro e W2 ⟨mo, ml, mc, rfl, x2, b2⟩
  clear hri1
  have B2 := below_tr2 b1 b2
  have hml := x2.len_eq
  have hm30 := hD.len
  by_cases h0 : ml = 0
  · subst h0
    go_wp2_with (go_at_call 20; with_reducible refine (tknown_any W2).mono ?_; rintro e W7 ⟨rfl, b7⟩)
    go_ret
    exact ⟨rfl, below_tr2 B2 b7⟩
  · have h0b : ((ml : Int) == 0) = false := by simp [h0]
    have hm1 : 1 ≤ m.length := by omega
    have hbd := tbuild_yes mo ml mc m W2 x2 hD.keys (hD.mayT (by omega) hm1)
    have hop := hD.open (by omega) hm1
    have htl := hD.table (by omega)
    generalize tableL m = tb at hbd hop htl
    go_wp2_with fail
    with_reducible refine hbd.mono ?_
    clear hbd
    rintro e W3 ⟨to, tl, tc, rfl, t3, b3⟩
    have hlb : tl ≤ 900000000 := by rw [← t3.len_eq]; exact htl
    have hpn := topen_yes to tl tc m tb W3 t3 hlb hop
    go_wp2_with fail
    with_reducible refine hpn.mono ?_
    clear hpn hop htl
    rintro e W4 ⟨pb, rfl, T4, b4⟩
    have B4 := below_tr2 (below_tr2 B2 b3) b4
    have x4 := (x2.later RE.stable b3).later RE.stable b4
    have k4 := hk.later B4
    clear hri t3 b1 b2 b3 b4 x1 x2 B2 hl hk
    obtain ⟨mb, mf, rfl, hc⟩ := x4.headE (by omega)
    have hget : ∀ (i : Nat) (x : Ent), m[i]? = some x → getL m x.k = some x ∧ x.k.length ≤ 12 := fun i x h => ⟨getL_some hD.ok (List.mem_of_getElem? h), (hD.small x (List.mem_of_getElem? h)).2.1⟩
    have hok := hD.ok
    go_wp2
    go_loopw [10, 11, 12] (fun s10 _ _ wr => ∃ i : Nat, i ≤ ml ∧ s10 = .int .i64 i ∧ Below W4.heap.size W4 wr) (fun s10 _ _ _ => ml - (intOf s10).toNat)
    case atStart => exact ⟨0, by omega, rfl, Below.refl _ _⟩
    case round =>
      obtain ⟨i, hi, rfl, hb⟩ := hrel
      by_cases hi2 : i < ml
      · have hxi : m[i]? = some (m[i]'(by omega)) := by simp
        obtain ⟨jo, jl, jc, uo, ul, uc, c0, c1, c2, tj, tv⟩ := hc i _ hxi
        obtain ⟨hg1, hg2⟩ := hget i _ hxi
        clear hxi
        generalize m[i]'(by omega) = x at c2 tj tv hg1 hg2
        rw [tj.len_eq] at hg2
        obtain ⟨G, hG⟩ : ∃ G, Hid (x.g = G) := ⟨_, rfl⟩
        rw [hG.out] at c2
        have hge := tget_yes pb m jo jl jc x.k wr (T4.later hb) (tj.later hb) (by omega) x hg1 G hG.out
        have c0w := cell_later hb c0
        have hki : (i : Int) < ml := by omega
        go_wp2_with fail
        with_reducible refine hge.mono ?_
        clear hge c0w
        rintro e V ⟨qo, ql, qc, vo, vl, vc, rfl, tq, tw, bV⟩
        have bv := hb.trans (bV.mono hb.size)
        have bx := Box.new V (.slice qo ql qc) (.slice vo vl vc) G
        have b6 : Below V.heap.size V (V.alloc (.cells #[.slice qo ql qc, .slice vo vl vc, .bool G] 25)) := (Below.refl _ _).alloc (Nat.le_refl _) _
        have tw6 := tw.later b6
        have bv6 := bv.trans (b6.mono bv.size)
        clear tq tw
        go_wp2_with fail
        generalize V.alloc (.cells #[.slice qo ql qc, .slice vo vl vc, .bool G] 25) = V6 at bx b6 tw6 bv6 ⊢
        obtain ⟨y0, y1, y2⟩ := bx
        have q1 := fun d os => cell_regrown y1 d os
        have q2 := fun d os => cell_regrown y2 d os
        have r1 := fun d os => cell_regrown (cell_later bv6 c1) d os
        have r2 := fun d os => cell_regrown (cell_later bv6 c2) d os
        have s0 := fun d os => (tw6.later (below_regrown V6 d os)).string
        have s1 := fun d os => ((tv.later bv6).later (below_regrown V6 d os)).string
        generalize strOfNums x.v = SV at s0 s1
        refine wp_region_quiet_below (by kernel_rfl) (by kernel_rfl) ?_
        repeat (go_big_quiet_step (fail))
        (with_reducible refine wpQuiet_nil ?_)
        intro _ hw'
        obtain ⟨⟨dq, osq⟩, hw''⟩ := hw'
        subst hw''
        have hb2 := bv6.trans ((below_regrown V6 dq osq).mono bv6.size)
        clear q1 q2 r1 r2 s0 s1
        generalize grow (redrawn V6 dq) osq = V7 at hb2 ⊢
        go_wp2
        go_roundw
        case rel => exact ⟨i + 1, by omega, by go_num, hb2⟩
        case measure => simp [intOf]; omega
      · have him : i = ml := by omega
        subst him
        have hiI : ¬ (i : Int) < i := by omega
        have T9 := T4.later hb
        have x9 := x4.later RE.stable hb
        have k9 := k4.later hb
        clear hc hget T4 x4 k4
        have bE : Below wr.heap.size wr (wr.alloc (.cells #[.int .u8 107] 5)) := (Below.refl _ _).alloc (Nat.le_refl _) _
        have g0 := gr_one wr 107 (by omega)
        have hc2 := cut_at ko lk ck 6 6 key (wr.alloc (.cells #[.int .u8 107] 5)) rfl (k9.later bE) (by omega)
        go_wp2_with fail
        with_reducible refine hc2.mono ?_
        clear hc2
        rintro e W5' ⟨tl2, rfl, htl2, tt5, rfl⟩
        go_wp2_with (with_reducible show wpList _ _ _ (⟨some 83, _, _, _, _, _⟩ :: _) _ _; refine wpList_gr rfl _ _ rfl wr.heap.size (some ⟨wr.heap.size, 0, none⟩) 1 1 [107] rfl g0 ko tl2 ck (key.take 6) rfl tt5 (by omega) ?_; intro a9 n9 c9 W6 hn9 g9 m9; have b9 := bE.trans (m9.below g0); have hn9' : n9 ≤ 7 := (by have := hn9.out; omega); clear hn9)
        have tk := g9.tx
        have hts : 0 < ([107] ++ key.take 6 : List Int).length := by simp
        have htwo := two_ranges m _ hok hts
        generalize ([107] ++ key.take 6 : List Int) = ks at tk hts htwo
        have T10 := T9.later b9
        have x10 := x9.later RE.stable b9
        clear g9 m9 g0 tt5 T9 x9 k9 bE
        have hr1 := rangeX_any [] pb m none 0 0 [] a9 n9 c9 ks W6 T10 (Tx.nil W6) tk (by omega) (by omega) hm1 (by simp)
        with_reducible refine hr1.mono ?_
        clear hr1
        rintro e V1 ⟨o1, n1, c1, rfl, ls1, v1⟩
        have T11 := T10.later v1
        have tk1 := tk.later v1
        have hr2 := rangeX_any (own (.slice o1 n1 c1)) pb m a9 n9 c9 ks none 0 0 [] V1 T11 tk1 (Tx.nil V1) (by omega) (by omega) hm1 (fun q hq => (ls1.lt q hq).1)
        have hle1 := List.length_filter_le (fun e : Ent => !delK [] ks e.k) m
        have hle2 := List.length_filter_le (fun e : Ent => !delK ks [] e.k) m
        generalize m.filter (fun e => !delK [] ks e.k) = r1 at ls1 htwo hle1
        generalize m.filter (fun e => !delK ks [] e.k) = r2 at hr2 htwo hle2
        go_wp2_with fail
        with_reducible refine hr2.mono ?_
        clear hr2
        rintro e V2 ⟨o2, n2, c2, rfl, ls2, v2⟩
        have ls1' := ls1.later (REx.st []) v2
        have xr2 : Lx 3 (REx (own (.slice o1 n1 c1) ++ [])) V2 o2 n2 c2 r2 := by rw [List.append_nil]; exact ls2.readY
        have hn2 := xr2.len_eq
        have hbs : W6.heap.size ≤ V2.heap.size := Nat.le_trans v1.size v2.size
        have htw : Hid (r1 ++ r2 = m) := htwo
        clear htwo ls1 ls2
        have hnn : r1.length + n2 ≤ 500000000 := by omega
        go_wp2_with (with_reducible show wpList _ _ _ (⟨some 90, _, _, _, _, _⟩ :: _) _ _; refine wpList_allY rfl _ _ rfl W6.heap.size (.slice o1 n1 c1) r1 rfl ls1' o2 n2 c2 r2 rfl xr2 hnn hbs ?_; intro ao5 n5 c5 w5 hn5 hls5 hof5 hsub5)
        have b5 : Below W6.heap.size V2 w5 := hof5.below (fun k hk => (ls1'.lt k hk).2) hbs
        have b65 : Below W6.heap.size W6 w5 := (v1.trans (v2.mono v1.size)).trans b5
        have xs5 := hls5.readX
        rw [htw.out] at xs5
        have x5 := x10.later RE.stable b65
        have hn5l := xs5.len_eq
        have hsm := same8_any ao5 (some ⟨mb, mf, none⟩) n5 c5 i mc m m w5 xs5 x5 (by omega) (by omega)
        rw [same_self] at hsm
        with_reducible refine hsm.mono ?_
        clear hsm
        rintro e V9 ⟨rfl, b9'⟩
        go_wp2_with (go_at_call 20; with_reducible refine (tknown_any V9).mono ?_; rintro e W9 ⟨rfl, b10⟩)
        go_ret
        exact ⟨rfl, below_tr2 (below_tr2 (below_tr2 (below_tr2 (below_tr2 B4 hb) b9) b65) b9') b10⟩
end Go.Proofs.Yteeemfohehpaeaa
