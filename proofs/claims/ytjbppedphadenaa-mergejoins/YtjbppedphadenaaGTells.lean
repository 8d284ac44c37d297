/- The walk of MergeTells. -/
import Derived.Test.YtjbppedphadenaaGKnown
import Derived.Test.YtjbppedphadenaaGRows
import Derived.Test.YtjbppedphadenaaGJoined
import Derived.Test.YtjbppedphadenaaGAsk
namespace Go.Proofs.Ytjbppedphadenaa
set_option maxRecDepth 100000
open Go.RowKit Go.Sort

theorem cutE_sizes (k v : Nat) (h1 : 1 ≤ k) (e : Ent) : 1 ≤ (cutE k v e).k.length ∧ (cutE k v e).k.length ≤ k ∧ (cutE k v e).v.length ≤ v := by
  refine ⟨?_, ?_, ?_⟩
  · show 1 ≤ (if (e.k.take k).length = 0 then [107] else e.k.take k).length
    split
    · simp
    · omega
  · show (if (e.k.take k).length = 0 then [107] else e.k.take k).length ≤ k
    split
    · simpa using h1
    · rw [List.length_take]; omega
  · show (if e.g = true then [] else e.v.take v).length ≤ v
    split
    · simp
    · rw [List.length_take]; omega
theorem keep_sizes (n k v : Nat) (h1 : 1 ≤ k) (l : List Ent) : ∀ e ∈ keepL n k v l, 1 ≤ e.k.length ∧ e.k.length ≤ k ∧ e.v.length ≤ v := by
  intro e he
  obtain ⟨x, _, rfl⟩ := List.mem_map.1 he
  exact cutE_sizes k v h1 x
theorem keep_length (n k v : Nat) (l : List Ent) : (keepL n k v l).length ≤ n := by unfold keepL; rw [List.length_map, List.length_take]; omega
theorem rise_mem : ∀ (l acc : List Ent) (y : Ent), y ∈ l.foldl (fun out e => insR e out) acc → y ∈ l ∨ y ∈ acc
  | [], acc, y, h => .inr h
  | e :: l, acc, y, h => by
    rcases rise_mem l (insR e acc) y h with h1 | h1
    · exact .inl (by simp [h1])
    · rcases ins_mem _ _ _ h1 with rfl | h1
      · exact .inl (by simp)
      · exact .inr h1
theorem rowsL_row (n : Nat) (ls : List (List Ent)) : ∀ l ∈ rowsL n ls, RiseP l ∧ l.length ≤ 12 ∧ ∀ e ∈ l, e.k.length ≤ 3 ∧ e.v.length ≤ 6 := by
  intro l hl
  obtain ⟨m, _, rfl⟩ := List.mem_map.1 hl
  have hs := keep_sizes 12 3 6 (by omega) m
  refine ⟨rises_pw.1 (rises_of (rise_ok _ (fun e he => ?_))), Nat.le_trans (rise_len _) (keep_length 12 3 6 m), fun e he => ?_⟩
  · have := hs e he
    exact (fitsE_iff e).2 ⟨this.1, by omega, .inr (by omega)⟩
  · rcases rise_mem _ [] e he with h1 | h1
    · exact (hs e h1).2
    · simp at h1
theorem rowsL_len (n : Nat) (ls : List (List Ent)) : (rowsL n ls).length ≤ n := by unfold rowsL; rw [List.length_map, List.length_take]; omega
theorem rows_jin (ls : List (List Ent)) : JIn (rowsL 6 ls) :=
  ⟨fun l hl => (rowsL_row 6 ls l hl).1, by have := rowsL_len 6 ls; omega, fun l hl => by have := (rowsL_row 6 ls l hl).2.1; omega, fun l hl e he => by have := (rowsL_row 6 ls l hl).2.2 e he; omega⟩
theorem join_len : ∀ (ls : List (List Ent)) (N : Nat), (∀ l ∈ ls, l.length ≤ N) → (joinL ls).length ≤ ls.length * N
  | [], N, _ => by simp [joinL]
  | l :: ls, N, h => by
    have h1 := join_len ls N (fun m hm => h m (by simp [hm]))
    have h2 := putL_len l (joinL ls)
    have h3 := h l (by simp)
    have e : joinL (l :: ls) = putL (joinL ls) l := rfl
    rw [e, List.length_cons, Nat.succ_mul]; omega
theorem join_mem : ∀ (ls : List (List Ent)) (y : Ent), y ∈ joinL ls → ∃ l ∈ ls, ∃ x ∈ l, y = norm x
  | [], y, h => by simp [joinL] at h
  | l :: ls, y, h => by
    rcases putL_mem l (joinL ls) y h with h1 | ⟨x, hx, e⟩
    · obtain ⟨m, hm, r⟩ := join_mem ls y h1
      exact ⟨m, by simp [hm], r⟩
    · exact ⟨l, by simp, x, hx, e⟩
theorem norm_vlen (e : Ent) : (norm e).v.length ≤ e.v.length := by unfold norm; split <;> simp
theorem rows_join (ls : List (List Ent)) : (joinL (rowsL 6 ls)).length ≤ 72 ∧ ∀ e ∈ joinL (rowsL 6 ls), e.k.length ≤ 3 ∧ e.v.length ≤ 6 := by
  refine ⟨?_, fun e he => ?_⟩
  · have := join_len (rowsL 6 ls) 12 (fun l hl => (rowsL_row 6 ls l hl).2.1)
    have := Nat.mul_le_mul_right 12 (rowsL_len 6 ls)
    omega
  · obtain ⟨l, hl, x, hx, rfl⟩ := join_mem _ e he
    have := (rowsL_row 6 ls l hl).2.2 x hx
    rw [norm_k]
    have := norm_vlen x
    omega
theorem drop_join (ls : List (List Ent)) (i : Nat) : (joinL ((rowsL 6 ls).drop i)).length ≤ 1000 := by
  have := join_len ((rowsL 6 ls).drop i) 12 (fun l hl => (rowsL_row 6 ls l (List.mem_of_mem_drop hl)).2.1)
  have h2 : ((rowsL 6 ls).drop i).length ≤ 6 := by rw [List.length_drop]; have := rowsL_len 6 ls; omega
  have := Nat.mul_le_mul_right 12 h2
  omega

/-- A cell of the first one is written. -/
theorem ls_put1 {w : World} {B g n cap : Nat} {e e' : Ent} {es : List Ent} (h : Ls 26 3 (REx []) w B (.slice (some ⟨g, 0, none⟩) n cap) (e :: es)) (i : Nat) (hi : i < 3) (x : Value) (_hx1 : x.oneCell' = true)
    (hE : ∀ w' k v, BytesAt w' (own (.slice (some ⟨g, 0, none⟩) n cap)) k e.k → BytesAt w' (own (.slice (some ⟨g, 0, none⟩) n cap)) v e.v → REx [] w' (own (.slice (some ⟨g, 0, none⟩) n cap)) ([k, v, .bool e.g].set i x) e') :
    Ls 26 3 (REx []) (w.setCell ⟨g, i, none⟩ x) B (.slice (some ⟨g, 0, none⟩) n cap) (e' :: es) := by
  obtain ⟨us, h1, h2, h3⟩ := h
  cases us with
  | nil => simp at h1
  | cons u us =>
    obtain ⟨k, v, rfl, hk, hv⟩ := h3 0 u e rfl rfl
    have ho : Off [g] w (w.setCell ⟨g, i, none⟩ x) := (Off.refl _ _).setCell (p := ⟨g, i, none⟩) (by simp) x
    have hown : own (.slice (some ⟨g, 0, none⟩) n cap) = [g] := rfl
    have hst : ∀ u y, REx [] w (own (.slice (some ⟨g, 0, none⟩) n cap)) u y → REx [] (w.setCell ⟨g, i, none⟩ x) (own (.slice (some ⟨g, 0, none⟩) n cap)) u y := fun u y hr => REx.st [] _ _ _ _ _ _ hr ho (fun k hk => .inl hk)
    refine ⟨[k, v, .bool e.g].set i x :: us, by simpa using h1, ?_, fun j u y hu hy => ?_⟩
    · obtain ⟨hl, h4⟩ := h2
      rcases h4 with ⟨h', _⟩ | ⟨g', c, cur, h', hb, hg, hn, hm, hs, ht⟩
      · cases h'
      · simp only [Value.slice.injEq, Option.some.injEq, Addr.mk.injEq, and_true] at h'
        obtain ⟨rfl, h5, rfl⟩ := h'
        refine ⟨by have := hl; simp at this ⊢; omega, .inr ⟨g, cap, cur.setIfInBounds i x, by rw [h5]; simp, hb, heap_setCell_same w g i _ 26 _ hg, by simpa using hn, hm, by simpa using hs, ?_⟩⟩
        rw [Array.toList_setIfInBounds, List.take_set]
        simp only [List.length_cons] at ht ⊢
        rw [ht]
        have h3' : i = 0 ∨ i = 1 ∨ i = 2 := by omega
        rcases h3' with rfl | rfl | rfl <;> rfl
    · cases j with
      | zero =>
        simp at hu hy
        subst hu hy
        have hk' : BytesAt w (own (.slice (some ⟨g, 0, none⟩) n cap)) k e.k := by simpa using hk
        have hv' : BytesAt w (own (.slice (some ⟨g, 0, none⟩) n cap)) v e.v := by simpa using hv
        exact hE _ k v (hk'.off (S := own (.slice (some ⟨g, 0, none⟩) n cap)) (by rw [hown]; exact ho) (fun k hk => .inl hk)) (hv'.off (S := own (.slice (some ⟨g, 0, none⟩) n cap)) (by rw [hown]; exact ho) (fun k hk => .inl hk))
      | succ j =>
        exact hst u y (h3 (j + 1) u y (by simpa using hu) (by simpa using hy))
/-- The first one turned. -/
def turnE : List Ent → List Ent
  | [] => []
  | e :: es => (if e.g = true then ⟨e.k, e.v, false⟩ else ⟨e.k, [], true⟩) :: es
theorem turn_same (x : List Ent) : sameL x (turnE x) = decide (x.length = 0) := by
  cases x with
  | nil => rfl
  | cons e es =>
    have : sameE e (if e.g = true then ⟨e.k, e.v, false⟩ else ⟨e.k, [], true⟩) = false := by
      unfold sameE
      cases hg : e.g <;> simp
    simp [turnE, sameL, this]

theorem same_yes {l m : List Ent} (h : l = m) : sameL l m = true := by rw [h, sameL_refl]
theorem ls_readE {w : World} {B n cap : Nat} {ao : Option Addr} {es : List Ent} (h : Ls 26 3 (REx []) w B (.slice ao n cap) es) : Lx 3 RE w ao n cap es := by
  obtain ⟨ao9, cap9, e9, hl9⟩ := h.read (REx.st []) (REx.pl [])
  simp only [Value.slice.injEq] at e9
  obtain ⟨rfl, e10, rfl⟩ := e9
  rw [e10]
  exact hl9.of_rex0
theorem y_head {w : World} {B n cap : Nat} {ao : Option Addr} {e : Ent} {es : List Ent} (h : Ls 26 3 (REx []) w B (.slice ao n cap) ([] ++ e :: es)) (hn : Hid (n = ([] : List Ent).length + (es.length + 1))) : ∃ g vv q, ao = some ⟨g, 0, none⟩ ∧ n = q + 1 ∧ w.cell? ⟨g, 1, none⟩ = some vv ∧ w.cell? ⟨g, 2, none⟩ = some (.bool e.g) ∧ w.frozen? ⟨g, 1, none⟩ = false ∧ w.frozen? ⟨g, 2, none⟩ = false ∧ B ≤ g ∧ q + 1 ≤ cap := by
  obtain ⟨us, h1, h2, h3⟩ := h
  cases us with
  | nil => simp at h1
  | cons u us =>
    obtain ⟨k, v, rfl, _, _⟩ := h3 0 u e rfl rfl
    have hn' : n = es.length + 1 := by have := hn.out; simpa using this
    rcases h2.2 with ⟨_, h4⟩ | ⟨g, c, cur, h', hb, hg, hn2, hm, hs, ht⟩
    · simp at h4
    · simp only [Value.slice.injEq] at h'
      obtain ⟨rfl, h5, rfl⟩ := h'
      have hcell : ∀ j x, ([k, v, Value.bool e.g] ++ us.flatten)[j]? = some x → j < 3 → w.cell? ⟨g, j, none⟩ = some x := fun j x hx hj => by
        rw [cell_of_row w g j cur 26 (0, 0) hg]
        have hx2 : (([k, v, Value.bool e.g] :: us).flatten)[j]? = some x := by simpa using hx
        rw [← ht, List.getElem?_take, if_pos (by simp; omega)] at hx2
        simpa using hx2
      exact ⟨g, v, es.length, rfl, hn', hcell 1 _ rfl (by omega), hcell 2 _ rfl (by omega), frozen_of_row w g 1 _ 26 hg, frozen_of_row w g 2 _ 26 hg, hb, by simp at hn2; omega⟩
theorem y_nil {n : Nat} (hn : Hid (n = ([] : List Ent).length + 0)) : n = 0 := by have := hn.out; simpa using this
set_option maxHeartbeats 16000000 in
theorem tells_walk (ao : Option Addr) (la ca : Nat) (ls : List (List Ent)) (bo : Option Addr) (lb cb : Nat) (raw : List Ent) (w : World) (h : Lx 1 RL w ao la ca ls) (hb : Lx 3 RE w bo lb cb raw) :
    Calls Try.prog 4 #[.slice ao la ca, .slice bo lb cb] w fun e w' => e = .returned (.bool true) ∧ Below w.heap.size w w' := by
  have hrows := rows_any ao la ca ls w h (fun i l _ => by have := keep_length 12 3 6 l; omega)
  have hrl := rowsL_len 6 ls
  have hrr := rowsL_row 6 ls
  have hji := rows_jin ls
  have hjl := rows_join ls
  have hdj := drop_join ls
  generalize rowsL 6 ls = r at hrows hrl hrr hji hjl hdj
  go_enter Try.func4, Try.ntmps4
  go_wp2_with fail
  with_reducible refine hrows.mono ?_
  clear hrows
  rintro x W1 ⟨ro, rl, rc, rfl, hr, b1⟩
  have hrlen := hr.len_eq
  have hjd := joined_any ro rl rc r W1 hr (by omega) (fun l hl => by have := (hrr l hl).2.1; omega) hdj (fun l hl e he => by have := (hrr l hl).2.2 e he; omega)
  go_wp2_with fail
  with_reducible refine hjd.mono ?_
  clear hjd
  rintro x W2 ⟨wo, wl, wc, rfl, hw, b2⟩
  have b12 := below_tr2 b1 b2
  have hkp := keep_far [] bo lb cb raw 5 2 3 5 2 3 rfl rfl rfl (by omega) (by omega) (by omega) W2 (hb.later RE.stable b12) ((hb.later RE.stable b12).low [] (by simp)).lx (by simp)
  have hxs := keep_sizes 5 2 3 (by omega) raw
  have hxl := keep_length 5 2 3 raw
  generalize keepL 5 2 3 raw = xs at hkp hxs hxl
  go_wp2_with fail
  with_reducible refine hkp.mono ?_
  clear hkp
  rintro x W3 ⟨xo, xl, xc, rfl, hx, b3⟩
  have b13 := below_tr2 b12 b3
  have hx := hx.read RE.stable
  have hxlen := hx.len_eq
  have bE : Below W3.heap.size W3 (W3.alloc (.cells #[] 26)) := (Below.refl _ _).alloc (Nat.le_refl _) _
  have hx1 := hx.rex0.fresh (Y := own (.slice (some ⟨W3.heap.size, 0, none⟩) 0 0)) bE (by simp [own, Value.ownBlock])
  have hjoin := fun V (bV : Below W1.heap.size W1 V) => join_any ro rl rc r V (hr.later RL.stable bV) hji
  clear hb h
  cases xs with
  | nil =>
    obtain rfl : xl = 0 := by simpa using hxlen.symm
    go_wp2_with (with_reducible show wpList _ _ _ (⟨some 17, _, _, _, _, _⟩ :: _) _ _; refine wpList_allY rfl _ _ rfl W3.heap.size (.slice (some ⟨W3.heap.size, 0, none⟩) 0 0) [] rfl (ls_empty_R (X := []) W3) xo 0 xc [] rfl hx1 (by rw [List.length_nil]; omega) (by simp) ?_; intro a5 n5 c5 w5 hn5 ls5 of5 sub5 ne5; obtain rfl := y_nil hn5)
    have hyF : Lx 3 RE w5 a5 0 c5 (turnE []) := by have := ls_readE ls5; simpa [turnE] using this
    have bF : Below W3.heap.size W3 w5 := bE.trans (of5.below (by simp [own, Value.ownBlock]) bE.size)
    generalize w5 = F at *
    clear ls5 of5 sub5 ne5 hn5
    have bW1F := below_tr2 (below_tr2 b2 b3) bF
    have b0F := below_tr2 b13 bF
    have hxF := hx.later RE.stable bF
    have hwF := (hw.later RE.stable b3).later RE.stable bF
    have hwl := hw.len_eq
    clear bF hx hx1 bE
    have hj1 := hjoin F bW1F
    go_wp2_with fail
    with_reducible refine hj1.mono ?_
    clear hj1
    rintro x V1 ⟨jo, jl, jc, rfl, hj, c1⟩
    have hjlen := hj.len_eq
    have hs1 := same8_any _ _ _ _ _ _ _ _ V1 hj (hwF.later RE.stable c1) (by omega) (by omega)
    rw [same_yes rfl] at hs1
    go_wp2_with fail
    with_reducible refine hs1.mono ?_
    clear hs1
    rintro x V2 ⟨rfl, c2⟩
    have d2 := below_tr2 c1 c2
    have hl1 := live_any _ _ _ _ V2 (hwF.later RE.stable d2) (by omega) (fun e he => by have := hjl.2 e he; omega)
    go_wp2_with fail
    with_reducible refine hl1.mono ?_
    clear hl1
    rintro x V3 ⟨lo, ll, lc, rfl, hlv, c3⟩
    have d3 := below_tr2 d2 c3
    have hlvl := hlv.len_eq
    have hll2 : (liveL (joinL r)).length ≤ (joinL r).length := List.length_filter_le _ _
    have hl2 := rlive_any _ _ _ _ V3 (hwF.later RE.stable d3) (by omega)
    go_wp2_with fail
    with_reducible refine hl2.mono ?_
    clear hl2
    rintro x V4 ⟨mo, ml, mc, rfl, hmv, c4⟩
    have d4 := below_tr2 d3 c4
    have hmvl := hmv.len_eq
    have hs2 := same8_any _ _ _ _ _ _ _ _ V4 (hlv.later RE.stable c4) hmv (by omega) (by omega)
    rw [same_yes rfl] at hs2
    go_wp2_with fail
    with_reducible refine hs2.mono ?_
    clear hs2
    rintro x V5 ⟨rfl, c5'⟩
    have d5 := below_tr2 d4 c5'
    have hr1 := right_any _ _ _ _ V5 (hxF.later RE.stable d5) (by omega) (fun e he => by have := hxs e he; omega)
    go_wp2_with fail
    with_reducible refine hr1.mono ?_
    clear hr1
    rintro x V6 ⟨rfl, c6⟩
    have d6 := below_tr2 d5 c6
    have hr2 := rright_any _ _ _ _ V6 (hxF.later RE.stable d6) (by omega)
    go_wp2_with fail
    with_reducible refine hr2.mono ?_
    clear hr2
    rintro x V7 ⟨rfl, c7⟩
    have d7 := below_tr2 d6 c7
    have hs3 := same_any _ _ _ _ _ _ _ _ V7 (hxF.later RE.stable d7) (hxF.later RE.stable d7) (by omega) (by omega)
    rw [sameL_refl] at hs3
    go_wp2_with fail
    with_reducible refine hs3.mono ?_
    clear hs3
    rintro x V8 ⟨rfl, c8⟩
    have d8 := below_tr2 d7 c8
    have hs4 := same_any _ _ _ _ _ _ _ _ V8 (hxF.later RE.stable d8) (hyF.later RE.stable d8) (by omega) (by omega)
    rw [turn_same] at hs4
    simp only [List.length_nil, decide_true] at hs4
    go_wp2_with fail
    with_reducible refine hs4.mono ?_
    clear hs4
    rintro x V9 ⟨rfl, c9⟩
    have d9 := below_tr2 d8 c9
    have hkn := known_any V9
    go_wp2_with fail
    with_reducible refine hkn.mono ?_
    clear hkn
    rintro x V10 ⟨rfl, c10⟩
    have d10 := below_tr2 b0F (below_tr2 d9 c10)
    go_wp2
    go_ret
    exact ⟨rfl, d10⟩
  | cons e es =>
    obtain rfl : xl = es.length + 1 := by simpa using hxlen.symm
    have hes4 : es.length ≤ 4 := by rw [List.length_cons] at hxl; omega
    obtain ⟨G, hG⟩ : ∃ G, Hid (e.g = G) := ⟨_, rfl⟩
    cases G with
    | true =>
      go_wp2_with (with_reducible show wpList _ _ _ (⟨some 17, _, _, _, _, _⟩ :: _) _ _; refine wpList_allY rfl _ _ rfl W3.heap.size (.slice (some ⟨W3.heap.size, 0, none⟩) 0 0) [] rfl (ls_empty_R (X := []) W3) xo (es.length + 1) xc (e :: es) rfl hx1 (by rw [List.length_nil]; omega) (by simp) ?_; intro a5 n5 c5 w5 hn5 ls5 of5 sub5 ne5; obtain ⟨g5, vv, q5, rfl, rfl, y1, y2, z1, z2, hg5, hqc⟩ := y_head ls5 hn5; rw [hG.out] at y2)
      have bF5 : Below W3.heap.size W3 w5 := bE.trans (of5.below (by simp [own, Value.ownBlock]) bE.size)
      obtain rfl : q5 = es.length := by have := hn5.out; simp at this; omega
      rw [List.nil_append] at ls5
      have lsF := ls_put1 (e' := ⟨e.k, e.v, false⟩) ls5 2 (by omega) (.bool false) rfl (fun w' k v hk hv => ⟨k, v, rfl, by simpa using hk, by simpa using hv⟩)
      have hyF := ls_readE lsF
      rw [show (⟨e.k, e.v, false⟩ : Ent) :: es = turnE (e :: es) by simp [turnE, hG.out]] at hyF
      have bF : Below W3.heap.size W3 (w5.setCell ⟨g5, 2, none⟩ (.bool false)) := bF5.setCell (p := ⟨g5, 2, none⟩) hg5 _
      generalize w5.setCell ⟨g5, 2, none⟩ (.bool false) = F at *
      clear ls5 of5 sub5 ne5 hn5 y1 y2 z1 z2 lsF bF5
      have bW1F := below_tr2 (below_tr2 b2 b3) bF
      have b0F := below_tr2 b13 bF
      have hxF := hx.later RE.stable bF
      have hwF := (hw.later RE.stable b3).later RE.stable bF
      have hwl := hw.len_eq
      clear bF hx hx1 bE
      have hj1 := hjoin F bW1F
      go_wp2_with fail
      with_reducible refine hj1.mono ?_
      clear hj1
      rintro x V1 ⟨jo, jl, jc, rfl, hj, c1⟩
      have hjlen := hj.len_eq
      have hs1 := same8_any _ _ _ _ _ _ _ _ V1 hj (hwF.later RE.stable c1) (by omega) (by omega)
      rw [same_yes rfl] at hs1
      go_wp2_with fail
      with_reducible refine hs1.mono ?_
      clear hs1
      rintro x V2 ⟨rfl, c2⟩
      have d2 := below_tr2 c1 c2
      have hl1 := live_any _ _ _ _ V2 (hwF.later RE.stable d2) (by omega) (fun e he => by have := hjl.2 e he; omega)
      go_wp2_with fail
      with_reducible refine hl1.mono ?_
      clear hl1
      rintro x V3 ⟨lo, ll, lc, rfl, hlv, c3⟩
      have d3 := below_tr2 d2 c3
      have hlvl := hlv.len_eq
      have hll2 : (liveL (joinL r)).length ≤ (joinL r).length := List.length_filter_le _ _
      have hl2 := rlive_any _ _ _ _ V3 (hwF.later RE.stable d3) (by omega)
      go_wp2_with fail
      with_reducible refine hl2.mono ?_
      clear hl2
      rintro x V4 ⟨mo, ml, mc, rfl, hmv, c4⟩
      have d4 := below_tr2 d3 c4
      have hmvl := hmv.len_eq
      have hs2 := same8_any _ _ _ _ _ _ _ _ V4 (hlv.later RE.stable c4) hmv (by omega) (by omega)
      rw [same_yes rfl] at hs2
      go_wp2_with fail
      with_reducible refine hs2.mono ?_
      clear hs2
      rintro x V5 ⟨rfl, c5'⟩
      have d5 := below_tr2 d4 c5'
      have hr1 := right_any _ _ _ _ V5 (hxF.later RE.stable d5) (by omega) (fun e he => by have := hxs e he; omega)
      go_wp2_with fail
      with_reducible refine hr1.mono ?_
      clear hr1
      rintro x V6 ⟨rfl, c6⟩
      have d6 := below_tr2 d5 c6
      have hr2 := rright_any _ _ _ _ V6 (hxF.later RE.stable d6) (by omega)
      go_wp2_with fail
      with_reducible refine hr2.mono ?_
      clear hr2
      rintro x V7 ⟨rfl, c7⟩
      have d7 := below_tr2 d6 c7
      have hs3 := same_any _ _ _ _ _ _ _ _ V7 (hxF.later RE.stable d7) (hxF.later RE.stable d7) (by omega) (by omega)
      rw [sameL_refl] at hs3
      go_wp2_with fail
      with_reducible refine hs3.mono ?_
      clear hs3
      rintro x V8 ⟨rfl, c8⟩
      have d8 := below_tr2 d7 c8
      have hs4 := same_any _ _ _ _ _ _ _ _ V8 (hxF.later RE.stable d8) (hyF.later RE.stable d8) (by omega) (by omega)
      rw [turn_same] at hs4
      simp only [List.length_cons, Nat.add_eq_zero_iff, Nat.one_ne_zero, and_false, decide_false] at hs4
      go_wp2_with fail
      with_reducible refine hs4.mono ?_
      clear hs4
      rintro x V9 ⟨rfl, c9⟩
      have d9 := below_tr2 d8 c9
      have hkn := known_any V9
      go_wp2_with fail
      with_reducible refine hkn.mono ?_
      clear hkn
      rintro x V10 ⟨rfl, c10⟩
      have d10 := below_tr2 b0F (below_tr2 d9 c10)
      go_wp2
      go_ret
      exact ⟨rfl, d10⟩
    | false =>
      go_wp2_with (with_reducible show wpList _ _ _ (⟨some 17, _, _, _, _, _⟩ :: _) _ _; refine wpList_allY rfl _ _ rfl W3.heap.size (.slice (some ⟨W3.heap.size, 0, none⟩) 0 0) [] rfl (ls_empty_R (X := []) W3) xo (es.length + 1) xc (e :: es) rfl hx1 (by rw [List.length_nil]; omega) (by simp) ?_; intro a5 n5 c5 w5 hn5 ls5 of5 sub5 ne5; obtain ⟨g5, vv, q5, rfl, rfl, y1, y2, z1, z2, hg5, hqc⟩ := y_head ls5 hn5; rw [hG.out] at y2)
      have bF5 : Below W3.heap.size W3 w5 := bE.trans (of5.below (by simp [own, Value.ownBlock]) bE.size)
      obtain rfl : q5 = es.length := by have := hn5.out; simp at this; omega
      rw [List.nil_append] at ls5
      have lsA := ls_put1 (e' := ⟨e.k, e.v, true⟩) ls5 2 (by omega) (.bool true) rfl (fun w' k v hk hv => ⟨k, v, rfl, by simpa using hk, by simpa using hv⟩)
      have lsF := ls_put1 (e' := ⟨e.k, [], true⟩) lsA 1 (by omega) (.slice none 0 0) rfl (fun w' k v hk hv => ⟨k, .slice none 0 0, rfl, by simpa using hk, none, 0, 0, rfl, Tx.nil _, fun _ h => by cases h⟩)
      have hyF := ls_readE lsF
      rw [show (⟨e.k, [], true⟩ : Ent) :: es = turnE (e :: es) by simp [turnE, hG.out]] at hyF
      have bF : Below W3.heap.size W3 ((w5.setCell ⟨g5, 2, none⟩ (.bool true)).setCell ⟨g5, 1, none⟩ (.slice none 0 0)) := (bF5.setCell (p := ⟨g5, 2, none⟩) hg5 _).setCell (p := ⟨g5, 1, none⟩) hg5 _
      clear lsA
      generalize (w5.setCell ⟨g5, 2, none⟩ (.bool true)).setCell ⟨g5, 1, none⟩ (.slice none 0 0) = F at *
      clear ls5 of5 sub5 ne5 hn5 y1 y2 z1 z2 lsF bF5
      have bW1F := below_tr2 (below_tr2 b2 b3) bF
      have b0F := below_tr2 b13 bF
      have hxF := hx.later RE.stable bF
      have hwF := (hw.later RE.stable b3).later RE.stable bF
      have hwl := hw.len_eq
      clear bF hx hx1 bE
      have hj1 := hjoin F bW1F
      go_wp2_with fail
      with_reducible refine hj1.mono ?_
      clear hj1
      rintro x V1 ⟨jo, jl, jc, rfl, hj, c1⟩
      have hjlen := hj.len_eq
      have hs1 := same8_any _ _ _ _ _ _ _ _ V1 hj (hwF.later RE.stable c1) (by omega) (by omega)
      rw [same_yes rfl] at hs1
      go_wp2_with fail
      with_reducible refine hs1.mono ?_
      clear hs1
      rintro x V2 ⟨rfl, c2⟩
      have d2 := below_tr2 c1 c2
      have hl1 := live_any _ _ _ _ V2 (hwF.later RE.stable d2) (by omega) (fun e he => by have := hjl.2 e he; omega)
      go_wp2_with fail
      with_reducible refine hl1.mono ?_
      clear hl1
      rintro x V3 ⟨lo, ll, lc, rfl, hlv, c3⟩
      have d3 := below_tr2 d2 c3
      have hlvl := hlv.len_eq
      have hll2 : (liveL (joinL r)).length ≤ (joinL r).length := List.length_filter_le _ _
      have hl2 := rlive_any _ _ _ _ V3 (hwF.later RE.stable d3) (by omega)
      go_wp2_with fail
      with_reducible refine hl2.mono ?_
      clear hl2
      rintro x V4 ⟨mo, ml, mc, rfl, hmv, c4⟩
      have d4 := below_tr2 d3 c4
      have hmvl := hmv.len_eq
      have hs2 := same8_any _ _ _ _ _ _ _ _ V4 (hlv.later RE.stable c4) hmv (by omega) (by omega)
      rw [same_yes rfl] at hs2
      go_wp2_with fail
      with_reducible refine hs2.mono ?_
      clear hs2
      rintro x V5 ⟨rfl, c5'⟩
      have d5 := below_tr2 d4 c5'
      have hr1 := right_any _ _ _ _ V5 (hxF.later RE.stable d5) (by omega) (fun e he => by have := hxs e he; omega)
      go_wp2_with fail
      with_reducible refine hr1.mono ?_
      clear hr1
      rintro x V6 ⟨rfl, c6⟩
      have d6 := below_tr2 d5 c6
      have hr2 := rright_any _ _ _ _ V6 (hxF.later RE.stable d6) (by omega)
      go_wp2_with fail
      with_reducible refine hr2.mono ?_
      clear hr2
      rintro x V7 ⟨rfl, c7⟩
      have d7 := below_tr2 d6 c7
      have hs3 := same_any _ _ _ _ _ _ _ _ V7 (hxF.later RE.stable d7) (hxF.later RE.stable d7) (by omega) (by omega)
      rw [sameL_refl] at hs3
      go_wp2_with fail
      with_reducible refine hs3.mono ?_
      clear hs3
      rintro x V8 ⟨rfl, c8⟩
      have d8 := below_tr2 d7 c8
      have hs4 := same_any _ _ _ _ _ _ _ _ V8 (hxF.later RE.stable d8) (hyF.later RE.stable d8) (by omega) (by omega)
      rw [turn_same] at hs4
      simp only [List.length_cons, Nat.add_eq_zero_iff, Nat.one_ne_zero, and_false, decide_false] at hs4
      go_wp2_with fail
      with_reducible refine hs4.mono ?_
      clear hs4
      rintro x V9 ⟨rfl, c9⟩
      have d9 := below_tr2 d8 c9
      have hkn := known_any V9
      go_wp2_with fail
      with_reducible refine hkn.mono ?_
      clear hkn
      rintro x V10 ⟨rfl, c10⟩
      have d10 := below_tr2 b0F (below_tr2 d9 c10)
      go_wp2
      go_ret
      exact ⟨rfl, d10⟩
end Go.Proofs.Ytjbppedphadenaa
