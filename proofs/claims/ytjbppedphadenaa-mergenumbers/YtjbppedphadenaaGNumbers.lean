/- The walk of MergeNumbers. -/
import Derived.Test.YtjbppedphadenaaGTells
namespace Go.Proofs.Ytjbppedphadenaa
set_option maxRecDepth 100000
open Go.RowKit Go.Sort

def entN (i k : Nat) : Ent := ⟨[(k : Int)], [(i : Int)], ((i : Int) + (k : Int)) % 4 == 1⟩
def rowN (i m : Nat) : List Ent := (List.range m).map (fun q => entN i (i + q * (i + 1)))
theorem rowN_succ (i m : Nat) : rowN i (m + 1) = rowN i m ++ [entN i (i + m * (i + 1))] := by simp [rowN, List.range_succ]
theorem rowN_len (i m : Nat) : (rowN i m).length = m := by simp [rowN]
theorem rowN_rise (i m : Nat) : RiseP (rowN i m) := by
  unfold rowN RiseP
  rw [List.pairwise_map]
  refine List.Pairwise.imp ?_ List.pairwise_lt_range
  intro a b hab
  have h1 := Nat.mul_le_mul_right (i + 1) (show a + 1 ≤ b by omega)
  rw [Nat.succ_mul] at h1
  have : ((i + a * (i + 1) : Nat) : Int) < ((i + b * (i + 1) : Nat) : Int) := by omega
  simp only [entN, lessB, this, decide_true, Bool.true_or]
theorem rowN_size (i m : Nat) : ∀ e ∈ rowN i m, e.k.length = 1 ∧ e.v.length = 1 := by
  intro e he
  obtain ⟨q, _, rfl⟩ := List.mem_map.1 he
  exact ⟨rfl, rfl⟩
def fullN (i : Nat) : List Ent := rowN i (30 / (i + 1))
def rowsN (i : Nat) : List (List Ent) := (List.range i).map fullN
theorem rowsN_succ (i : Nat) : rowsN (i + 1) = rowsN i ++ [fullN i] := by simp [rowsN, List.range_succ]
theorem rowsN_len (i : Nat) : (rowsN i).length = i := by simp [rowsN]
theorem fullN_len (i : Nat) : (fullN i).length ≤ 30 := by unfold fullN; rw [rowN_len]; exact Nat.div_le_self _ _
theorem rowsN_row (i : Nat) : ∀ l ∈ rowsN i, RiseP l ∧ l.length ≤ 30 ∧ ∀ e ∈ l, e.k.length = 1 ∧ e.v.length = 1 := by
  intro l hl
  obtain ⟨q, _, rfl⟩ := List.mem_map.1 hl
  exact ⟨rowN_rise _ _, fullN_len q, rowN_size _ _⟩
theorem jin_N (i : Nat) (hi : i ≤ 5) : JIn (rowsN i) :=
  ⟨fun l hl => (rowsN_row i l hl).1, by rw [rowsN_len]; omega, fun l hl => by have := (rowsN_row i l hl).2.1; omega, fun l hl e he => by have := (rowsN_row i l hl).2.2 e he; omega⟩
theorem dropN_len (i j : Nat) (hi : i ≤ 5) : (joinL ((rowsN i).drop j)).length ≤ 150 := by
  have := join_len ((rowsN i).drop j) 30 (fun l hl => (rowsN_row i l (List.mem_of_mem_drop hl)).2.1)
  have h2 : ((rowsN i).drop j).length ≤ 5 := by rw [List.length_drop, rowsN_len]; omega
  have := Nat.mul_le_mul_right 30 h2
  omega
theorem joinN_size (i : Nat) : ∀ e ∈ joinL (rowsN i), e.k.length ≤ 1 ∧ e.v.length ≤ 1 := fun e he => by
  obtain ⟨l, hl, x, hx, rfl⟩ := join_mem _ e he
  have := (rowsN_row i l hl).2.2 x hx
  rw [norm_k]
  have := norm_vlen x
  omega
theorem step_N {i m k : Nat} (hi : i < 5) (hk : k = i + m * (i + 1)) (h30 : k < 30) : m + 1 ≤ 30 / (i + 1) := by
  have : i = 0 ∨ i = 1 ∨ i = 2 ∨ i = 3 ∨ i = 4 := by omega
  rcases this with rfl | rfl | rfl | rfl | rfl <;> omega
theorem end_N {i m k : Nat} (hi : i < 5) (hk : k = i + m * (i + 1)) (hm : m ≤ 30 / (i + 1)) (h30 : ¬ k < 30) : m = 30 / (i + 1) := by
  have : i = 0 ∨ i = 1 ∨ i = 2 ∨ i = 3 ∨ i = 4 := by omega
  rcases this with rfl | rfl | rfl | rfl | rfl <;> omega
theorem hid_eqN {a b : Nat} (h : a = b) : Hid (a = b) := h
/-- The entry's cells read as the entry, apart from X and the row. -/
theorem rex_one {X : List Nat} {W : World} {v : Value} {B : Nat} {es : List Ent} (hls : Ls 26 3 (REx X) W B v es) (hX : ∀ q ∈ X, q < W.heap.size) (a b : Int) (ha : 0 ≤ a ∧ a ≤ 255) (hb : 0 ≤ b ∧ b ≤ 255) (G : Bool) (o : Obj) :
    REx X (((W.alloc (.cells #[.int .u8 a] 5)).alloc (.cells #[.int .u8 b] 5)).alloc o) (own v) [.slice (some ⟨W.heap.size, 0, none⟩) 1 1, .slice (some ⟨W.heap.size + 1, 0, none⟩) 1 1, .bool G] ⟨[a], [b], G⟩ := by
  have hout : ∀ k, W.heap.size ≤ k → k ∉ own v ++ X := fun k hk hm => by
    rcases List.mem_append.1 hm with h1 | h1
    · have := (hls.lt k h1).1; omega
    · have := hX k h1; omega
  have t1 := ((tx_one W a ha).alloc (.cells #[.int .u8 b] 5)).alloc o
  have t2 := (tx_one (W.alloc (.cells #[.int .u8 a] 5)) b hb).alloc o
  rw [show (W.alloc (.cells #[.int .u8 a] 5)).heap.size = W.heap.size + 1 by simp] at t2
  exact ⟨_, _, rfl, t1.at _ (fun ad h _ => by cases h; exact hout _ (Nat.le_refl _)), t2.at _ (fun ad h _ => by cases h; exact hout (W.heap.size + 1) (by omega))⟩
theorem ls_lvX {X : List Nat} {w : World} {B n cap : Nat} {ao : Option Addr} {es : List Ent} (h : Ls 26 3 (REx X) w B (.slice ao n cap) es) (hX : ∀ k ∈ X, k < B) : Lv 3 RE X w ao n cap es := (RQ.of h).lv hX

set_option maxHeartbeats 16000000 in
theorem numbers_walk (w : World) : Calls Try.prog 3 #[] w fun e w' => e = .returned (.bool true) ∧ Below w.heap.size w w' := by
  go_enter Try.func3, Try.ntmps3
  go_wp2
  go_loopw [1, 2, 3, 4, 5] (fun s1 s2 _ _ _ wr => ∃ (i : Nat) (bo : Option Addr) (cb : Nat), i ≤ 5 ∧ s2 = .int .i64 i ∧ s1 = .slice bo i cb ∧ Ls 23 1 RL wr w.heap.size (.slice bo i cb) (rowsN i) ∧ Below w.heap.size w wr) (fun _ s2 _ _ _ _ => 5 - (intOf s2).toNat)
  case atStart => exact ⟨0, none, 0, by omega, rfl, rfl, Ls.nil _ _ _ _ _, Below.refl _ _⟩
  case round =>
    obtain ⟨i, bo, cb, hi, rfl, rfl, hls, hb⟩ := hrel
    by_cases hi2 : i < 5
    · have hiI : (i : Int) < 5 := by omega
      obtain ⟨W0, hW0⟩ : ∃ W, W = wr := ⟨_, rfl⟩
      subst hW0
      have hXl : ∀ k ∈ own (.slice bo i cb), k < W0.heap.size := fun k hk => (hls.lt k hk).1
      go_wp2
      go_loopw [3, 4] (fun s3 s4 wr => ∃ (m k : Nat) (ro : Option Addr) (rc : Nat), Hid (k = i + m * (i + 1)) ∧ Hid (m ≤ 30 / (i + 1)) ∧ k ≤ 40 ∧ s4 = .int .i64 k ∧ s3 = .slice ro m rc ∧ Ls 26 3 (REx (own (.slice bo i cb))) wr W0.heap.size (.slice ro m rc) (rowN i m) ∧ Below W0.heap.size W0 wr) (fun _ s4 _ => 40 - (intOf s4).toNat)
      case atStart => exact ⟨0, i, none, 0, by show _ = _; omega, Nat.zero_le _, by omega, rfl, rfl, Ls.nil _ _ _ _ _, Below.refl _ _⟩
      case round =>
        obtain ⟨m, k, ro, rc, hk, hm, hk40, rfl, rfl, hrow, hb2⟩ := hrel
        by_cases hk30 : k < 30
        · have hkI : (k : Int) < 30 := by omega
          obtain ⟨V, hV⟩ : ∃ W, W = wr := ⟨_, rfl⟩
          subst hV
          obtain ⟨G, hG⟩ : ∃ G, (((i : Int) + (k : Int)) % 4 == 1) = G := ⟨_, rfl⟩
          have hm1 := step_N hi2 hk.out hk30
          have hm30 : m ≤ 30 := by have := hm.out; exact Nat.le_trans this (Nat.div_le_self _ _)
          have bA : Below V.heap.size V (((V.alloc (.cells #[.int .u8 (k : Int)] 5)).alloc (.cells #[.int .u8 (i : Int)] 5)).alloc (.cells #[.slice (some ⟨V.heap.size, 0, none⟩) 1 1, .slice (some ⟨V.heap.size + 1, 0, none⟩) 1 1, .bool G] 26)) := (((Below.refl _ _).alloc (Nat.le_refl _) _).alloc (by simp) _).alloc (by simp; omega) _
          have HL := hrow.later (REx.st _) bA
          have HR := rex_one hrow (fun q hq => Nat.lt_of_lt_of_le (hXl q hq) hb2.size) (k : Int) (i : Int) (by omega) (by omega) G (.cells #[.slice (some ⟨V.heap.size, 0, none⟩) 1 1, .slice (some ⟨V.heap.size + 1, 0, none⟩) 1 1, .bool G] 26)
          have hent : (⟨[(k : Int)], [(i : Int)], G⟩ : Ent) = entN i k := by unfold entN; rw [hG]
          rw [hent] at HR
          have hC := cells3_at ((V.alloc (.cells #[.int .u8 (k : Int)] 5)).alloc (.cells #[.int .u8 (i : Int)] 5)) (V.heap.size + 1 + 1) (by simp) (.slice (some ⟨V.heap.size, 0, none⟩) 1 1) (.slice (some ⟨V.heap.size + 1, 0, none⟩) 1 1) (.bool G)
          have hacc : (rowN i m).length ≤ 1000000000 := by rw [rowN_len]; omega
          have hst : Hid (rowN i (m + 1) = rowN i m ++ [entN i k]) := by show _ = _; rw [hk.out]; exact rowN_succ i m
          have hln : Hid ((rowN i m).length = m) := rowN_len i m
          have hW4 : W0.heap.size ≤ (((V.alloc (.cells #[.int .u8 (k : Int)] 5)).alloc (.cells #[.int .u8 (i : Int)] 5)).alloc (.cells #[.slice (some ⟨V.heap.size, 0, none⟩) 1 1, .slice (some ⟨V.heap.size + 1, 0, none⟩) 1 1, .bool G] 26)).heap.size := Nat.le_trans hb2.size bA.size
          have hk2 : Hid (k + 1 + i = i + (m + 1) * (i + 1)) := by show _ = _; have := hk.out; rw [Nat.succ_mul]; omega
          have bW := below_tr2 hb2 bA
          clear hent
          generalize rowN i m = acc at *
          go_wp2_with (with_reducible show wpList _ _ _ (⟨some 33, _, _, _, _, _⟩ :: _) _ _; refine wpList_one (REx.st _) (REx.pl _) Try.underlying23 Try.info26 rfl (by omega) (by omega) rfl _ _ rfl W0.heap.size (.slice ro m rc) acc rfl HL ⟨V.heap.size + 1 + 1, 0, none⟩ 1 [.slice (some ⟨V.heap.size, 0, none⟩) 1 1, .slice (some ⟨V.heap.size + 1, 0, none⟩) 1 1, .bool G] _ rfl hC HR hacc hW4 ?_; intro ao5 n5 c5 w5 hn5 hls5 hof5 hsub5; have hn6 := hid_eqN hn5; clear hn5)
          go_roundw
          case rel =>
            have hn7 : n5 = m + 1 := by rw [hn6.out, hln.out]
            subst hn7
            exact ⟨m + 1, k + 1 + i, ao5, c5, hk2, hm1, by omega, by go_num, rfl, by rw [hst.out]; exact hls5, bW.trans (hof5.below (fun q hq => (hrow.lt q hq).2) hW4)⟩
          case measure => simp [intOf]; omega
        · have hkI : ¬ (k : Int) < 30 := by omega
          have hmE := end_N hi2 hk.out hm.out hk30
          have hrow : Ls 26 3 (REx (own (.slice bo i cb))) wr W0.heap.size (.slice ro m rc) (fullN i) := by unfold fullN; rw [← hmE]; exact hrow
          clear hk hm hmE
          obtain ⟨V, hV⟩ : ∃ W, W = wr := ⟨_, rfl⟩
          subst hV
          have hlv := ls_lvX hrow hXl
          have bA : Below V.heap.size V (V.alloc (.cells #[.slice ro m rc] 23)) := (Below.refl _ _).alloc (Nat.le_refl _) _
          have HL := (hls.later RL.stable hb2).later RL.stable bA
          have HR : RL (V.alloc (.cells #[.slice ro m rc] 23)) (own (.slice bo i cb)) [.slice ro m rc] (fullN i) := ⟨ro, m, rc, rfl, hlv.later RE.stable bA⟩
          have hu : ∀ j x, [Value.slice ro m rc][j]? = some x → (V.alloc (.cells #[.slice ro m rc] 23)).cell? ((⟨V.heap.size, 0, none⟩ : Addr).add j) = some x := fun j x hx => lx_cell_one V (.slice ro m rc) 23 j x hx
          have bW := below_tr2 (below_tr2 hb hb2) bA
          have hW4 := bW.size
          have hacc : (rowsN i).length ≤ 1000000000 := by rw [rowsN_len]; omega
          have hln : Hid ((rowsN i).length = i) := rowsN_len i
          have hst : Hid (rowsN (i + 1) = rowsN i ++ [fullN i]) := rowsN_succ i
          generalize rowsN i = acc at *
          go_wp2_with (with_reducible show wpList _ _ _ (⟨some 37, _, _, _, _, _⟩ :: _) _ _; refine wpList_one RL.stable RL.plain Try.underlying22 Try.info23 rfl (by omega) (by omega) rfl _ _ rfl w.heap.size (.slice bo i cb) acc rfl HL ⟨V.heap.size, 0, none⟩ 1 [.slice ro m rc] _ rfl hu HR hacc hW4 ?_; intro ao5 n5 c5 w5 hn5 hls5 hof5 hsub5; have hn6 := hid_eqN hn5; clear hn5)
          have hn7 : n5 = i + 1 := by rw [hn6.out, hln.out]
          subst hn7
          have bw5 : Below w.heap.size w w5 := bW.trans (hof5.below (fun q hq => (hls.lt q hq).2) hW4)
          rw [← hst.out] at hls5
          clear hn6 hln hst hacc hW4 bW hu HR HL bA hlv hrow hof5 hsub5 hls hb hb2 hXl
          obtain ⟨ao9, cap9, e9, hlx⟩ := hls5.read RL.stable RL.plain
          simp only [Value.slice.injEq] at e9
          obtain ⟨rfl, e10, rfl⟩ := e9
          rw [← e10] at hlx
          clear e10
          have hjn := jin_N (i + 1) (by omega)
          have hrw := rowsN_row (i + 1)
          have hdl := fun j => dropN_len (i + 1) j (by omega)
          have hjs := joinN_size (i + 1)
          have hd0 := hdl 0
          rw [List.drop_zero] at hd0
          have hjd := joined_any ao5 (i + 1) c5 (rowsN (i + 1)) w5 hlx (by omega) (fun l hl => by have := (hrw l hl).2.1; omega) (fun j => Nat.le_trans (hdl j) (by omega)) (fun l hl e he => by have := (hrw l hl).2.2 e he; omega)
          have hjoin := fun V (bV : Below w5.heap.size w5 V) => join_any ao5 (i + 1) c5 (rowsN (i + 1)) V (hlx.later RL.stable bV) hjn
          have hrise := join_rise (rowsN (i + 1))
          have hRR : ∃ r, Hid (rowsN (i + 1) = r) := ⟨_, rfl⟩
          obtain ⟨r, hR⟩ := hRR
          rw [hR.out] at hjd hjn hrw hjs hd0 hrise hls5 hlx hjoin
          with_reducible refine hjd.mono ?_
          clear hjd
          rintro x V1 ⟨wo, wl, wc, rfl, hw, b1⟩
          have hwl := hw.len_eq
          have hj1 := hjoin V1 b1
          go_wp2_with fail
          with_reducible refine hj1.mono ?_
          clear hj1
          rintro x V2 ⟨jo, jl, jc, rfl, hj, b2⟩
          have hjlen := hj.len_eq
          have hs1 := same8_any _ _ _ _ _ _ _ _ V2 hj (hw.later RE.stable b2) (by omega) (by omega)
          rw [same_yes rfl] at hs1
          go_wp2_with fail
          with_reducible refine hs1.mono ?_
          clear hs1
          rintro x V3 ⟨rfl, b3⟩
          have d3 := below_tr2 b2 b3
          have hl1 := live_any _ _ _ _ V3 (hw.later RE.stable d3) (by omega) (fun e he => by have := hjs e he; omega)
          go_wp2_with fail
          with_reducible refine hl1.mono ?_
          clear hl1
          rintro x V4 ⟨lo, ll, lc, rfl, hlv, b4⟩
          have d4 := below_tr2 d3 b4
          have hlvl := hlv.len_eq
          have hll2 : (liveL (joinL r)).length ≤ (joinL r).length := List.length_filter_le _ _
          have hl2 := rlive_any _ _ _ _ V4 (hw.later RE.stable d4) (by omega)
          go_wp2_with fail
          with_reducible refine hl2.mono ?_
          clear hl2
          rintro x V5 ⟨mo, ml, mc, rfl, hmv, b5⟩
          have d5 := below_tr2 d4 b5
          have hmvl := hmv.len_eq
          have hs2 := same8_any _ _ _ _ _ _ _ _ V5 (hlv.later RE.stable b5) hmv (by omega) (by omega)
          rw [same_yes rfl] at hs2
          go_wp2_with fail
          with_reducible refine hs2.mono ?_
          clear hs2
          rintro x V6 ⟨rfl, b6⟩
          have d6 := below_tr2 d5 b6
          have hr1 := right_any _ _ _ _ V6 (hw.later RE.stable d6) (by omega) (fun e he => by have := hjs e he; omega)
          rw [riseB_of hrise] at hr1
          go_wp2_with fail
          with_reducible refine hr1.mono ?_
          clear hr1
          rintro x V7 ⟨rfl, b7⟩
          have d7 := below_tr2 b1 (below_tr2 d6 b7)
          have hE := hls5.later RL.stable d7
          have bE := below_tr2 bw5 d7
          clear hw hj hlv hmv
          go_wp2
          go_roundw
          case rel => exact ⟨i + 1, ao5, c5, by omega, by go_num, rfl, by rw [hR.out]; exact hE, bE⟩
          case measure => simp [intOf]; omega
    · have hiI : ¬ (i : Int) < 5 := by omega
      obtain rfl : i = 5 := by omega
      obtain ⟨ao9, cap9, e9, hlx⟩ := hls.read RL.stable RL.plain
      simp only [Value.slice.injEq] at e9
      obtain ⟨rfl, e10, rfl⟩ := e9
      rw [← e10] at hlx
      clear e10 hls
      obtain ⟨V, hV⟩ : ∃ W, W = wr := ⟨_, rfl⟩
      subst hV
      obtain ⟨lb, loff, rfl, hc⟩ := hlx.headL (by omega)
      obtain ⟨eo, el, ec, c0, t0⟩ := hc 0 (fullN 0) rfl
      obtain ⟨fo, fl, fc, c1, t1⟩ := hc 1 (fullN 1) rfl
      have hel : el = 30 := by rw [← t0.len_eq]; unfold fullN; rw [rowN_len]
      have hfl : fl = 15 := by rw [← t1.len_eq]; unfold fullN; rw [rowN_len]
      subst hel hfl
      rw [Nat.add_zero] at c0
      have hcl := hlx.le
      have htl := hlx.top
      unfold maxLen at htl
      obtain ⟨xb, xoff, rfl, _⟩ := t0.headE (by omega)
      have hec := t0.le
      have hect := t0.top
      unfold maxLen at hect
      have hec1 : ¬ ec = 1 := by omega
      have cq0 := fun d os => cell_regrown c0 d os
      have cq1 := fun d os => cell_regrown c1 d os
      clear hc hlx
      go_wp2_with fail
      refine wp_region_quiet_below (by kernel_rfl) (by kernel_rfl) ?_
      repeat (go_big_quiet_step (fail))
      (with_reducible refine wpQuiet_nil ?_)
      intro _ hw'
      obtain ⟨⟨dq, osq⟩, hw''⟩ := hw'
      subst hw''
      have bq := below_regrown V dq osq
      clear cq0 cq1
      generalize grow (redrawn V dq) osq = V1 at bq ⊢
      have h0 := t0.later RE.stable bq
      have h1 := t1.later RE.stable bq
      have hb1 := below_tr2 hb bq
      have hs1 := same_any _ _ _ _ _ _ _ _ V1 h0 h0 (by omega) (by omega)
      rw [sameL_refl] at hs1
      go_wp2_with fail
      with_reducible refine hs1.mono ?_
      clear hs1
      rintro x V2 ⟨rfl, b2⟩
      have hs2 := same_any _ _ _ _ _ _ _ _ V2 (h0.later RE.stable b2) (h1.later RE.stable b2) (by omega) (by omega)
      rw [show sameL (fullN 0) (fullN 1) = false from sameL_len (by unfold fullN; rw [rowN_len, rowN_len]; omega)] at hs2
      go_wp2_with fail
      with_reducible refine hs2.mono ?_
      clear hs2
      rintro x V3 ⟨rfl, b3⟩
      have d3 := below_tr2 b2 b3
      obtain ⟨e0, es0, hes⟩ : ∃ e es, fullN 0 = e :: es := by
        cases hf : fullN 0 with
        | nil => have := rowN_len 0 (30 / (0 + 1)); unfold fullN at hf; rw [hf] at this; simp at this
        | cons e es => exact ⟨e, es, rfl⟩
      have h03 := h0.later RE.stable d3
      have hdrop := h03
      rw [hes] at hdrop
      have hdrop := hdrop.rest ⟨xb, xoff + 3, none⟩ (fun _ => rfl)
      have hesl : es0.length = 29 := by have := hdrop.len_eq; omega
      have hs3 := same_any _ _ _ _ _ _ _ _ V3 h03 hdrop (by omega) (by omega)
      rw [show sameL (fullN 0) es0 = false from sameL_len (by rw [hes, List.length_cons]; omega)] at hs3
      go_wp2_with fail
      with_reducible refine hs3.mono ?_
      clear hs3
      rintro x V4 ⟨rfl, b4⟩
      have d4 := below_tr2 d3 b4
      have hr4 := right_any none 0 0 [] V4 (Lx.nil _ _ _) (by omega) (by simp)
      rw [show riseB [] = true from rfl] at hr4
      go_wp2_with fail
      with_reducible refine hr4.mono ?_
      clear hr4
      rintro x V5 ⟨rfl, b5⟩
      have d5 := below_tr2 d4 b5
      clear hdrop h03 h0 h1
      go_wp2_with (first
        | (with_reducible show wpList _ _ _ (⟨some 85, _, _, _, _, _⟩ :: _) _ _; refine wpList_unguard (by kernel_rfl) ?_; refine wpList_conv1 rfl _ rfl V5 V5.heap.size 98 rfl rfl rfl (by omega) (by omega) ?_; intro V6 t6 b6)
        | (with_reducible show wpList _ _ _ (⟨some 88, _, _, _, _, _⟩ :: _) _ _; refine wpList_unguard (by kernel_rfl) ?_; refine wpList_conv1 rfl _ rfl V6 V6.heap.size 98 rfl rfl rfl (by omega) (by omega) ?_; intro V7 t7 b7))
      have n0 : ∀ (W : World) (ao : Option Addr) (l c : Nat) (xs : List Int), Tx W ao l c xs → BytesAt W [] (.slice ao l c) xs := fun W ao l c xs t => t.at [] (by simp)
      have lx2 := (lv_ent_two [] V7 (by simp) (e := ⟨[98], [], false⟩) (e2 := ⟨[98], [], false⟩) (n0 _ _ _ _ _ (t6.later b7)) (n0 _ _ _ _ _ (Tx.nil V7)) (n0 _ _ _ _ _ t7) (n0 _ _ _ _ _ (Tx.nil V7)) false false rfl rfl).read RE.stable
      have hr7 := right_any _ _ _ _ _ lx2 (by omega) (by simp)
      rw [show riseB [⟨[98], [], false⟩, ⟨[98], [], false⟩] = false from rfl] at hr7
      have d7 := below_tr2 (below_tr2 (below_tr2 d5 b6) b7) ((Below.refl V7.heap.size V7).alloc (Nat.le_refl _) (.cells #[.slice (some ⟨V5.heap.size, 0, none⟩) 1 1, .slice none 0 0, .bool false, .slice (some ⟨V6.heap.size, 0, none⟩) 1 1, .slice none 0 0, .bool false] 26))
      clear lx2 t6 t7
      go_wp2_with fail
      with_reducible refine hr7.mono ?_
      clear hr7
      rintro x V8 ⟨rfl, b8⟩
      have d8 := below_tr2 d7 b8
      have hkn := known_any V8
      go_wp2_with fail
      with_reducible refine hkn.mono ?_
      clear hkn
      rintro x V9 ⟨rfl, b9⟩
      have d9 := below_tr2 hb1 (below_tr2 d8 b9)
      go_wp2
      go_ret
      exact ⟨rfl, d9⟩
end Go.Proofs.Ytjbppedphadenaa
