/- Lists whose blocks, and whose elements' blocks, are none of those of X: what is written there leaves them. -/
import Derived.Test.YtgleblfkcdkaeaaDoorFWalksD
namespace Go.Proofs.YtgleblfkcdkaeaaDoor
open Go.RowKit

/-- An element that lies in none of the blocks X either. -/
def Rx {α : Type} (X : List Nat) (R : Reads α) : Reads α := fun w S u e => R w (S ++ X) u e
theorem Rx.st {α : Type} (X : List Nat) {R : Reads α} (h : Stable R) : Stable (Rx X R) := by
  intro w w' S S' u e hr ho hs
  refine h _ _ _ _ _ _ hr (ho.mono (fun k hk => List.mem_append_left _ hk)) (fun k hk => ?_)
  rcases List.mem_append.1 hk with hk | hk
  · exact (hs k hk).imp_left (List.mem_append_left _)
  · exact .inl (List.mem_append_right _ hk)
theorem Rx.pl {α : Type} {c : Nat} (X : List Nat) {R : Reads α} (h : Plain c R) : Plain c (Rx X R) := fun w S u e hr => h w (S ++ X) u e hr
theorem Rx.weak {α : Type} {X : List Nat} {R : Reads α} (h : Stable R) {w : World} {S : List Nat} {u : List Value} {e : α} (hr : Rx X R w S u e) : R w S u e := h _ _ _ _ _ _ hr (.refl _ _) (fun _ hk => .inl (List.mem_append_left _ hk))

/-- A list that is read and that lies in none of the blocks X. -/
structure Lv {α : Type} (c : Nat) (R : Reads α) (X : List Nat) (w : World) (ao : Option Addr) (len cap : Nat) (es : List α) : Prop where
  lx : Lx c (Rx X R) w ao len cap es
  out : ∀ ad, ao = some ad → 0 < len → ad.block ∉ X

theorem Lx.weak {α : Type} {c : Nat} {R : Reads α} {X : List Nat} (hst : Stable R) {w : World} {ao : Option Addr} {len cap : Nat} {es : List α} (h : Lx c (Rx X R) w ao len cap es) : Lx c R w ao len cap es :=
  ⟨h.len_eq, h.le, h.top, h.bare, fun ad ha j e he => by
    obtain ⟨u, h1, h2⟩ := h.cell ad ha j e he
    exact ⟨u, h1, Rx.weak hst h2⟩⟩
theorem Lv.read {α : Type} {c : Nat} {R : Reads α} {X : List Nat} (hst : Stable R) {w : World} {ao : Option Addr} {len cap : Nat} {es : List α} (h : Lv c R X w ao len cap es) : Lx c R w ao len cap es := h.lx.weak hst

theorem Lv.off {α : Type} {c : Nat} {R : Reads α} {X X' : List Nat} (hst : Stable R) (hc : Plain c R) (h0 : 0 < c) {w w' : World} {ao : Option Addr} {len cap : Nat} {es : List α} (h : Lv c R X w ao len cap es) (ho : Off X w w') (hs : ∀ k ∈ X', k ∈ X ∨ w.heap.size ≤ k) : Lv c R X' w' ao len cap es := by
  have hlen := h.lx.len_eq
  refine ⟨⟨h.lx.len_eq, h.lx.le, h.lx.top, h.lx.bare, fun ad ha j e he => ?_⟩, fun ad ha hl hk => ?_⟩
  · obtain ⟨u, h1, h2⟩ := h.lx.cell ad ha j e he
    have hj := (List.getElem?_eq_some_iff.1 he).1
    exact ⟨u, fun i x hx => ho.cell (h1 i x hx) (by rw [add_block]; exact h.out ad ha (by omega)), hst _ _ _ _ _ _ h2 (by simpa using ho) (by simpa using hs)⟩
  · rcases hs _ hk with e | e
    · exact h.out ad ha hl e
    · obtain ⟨u, h1, h2⟩ := h.lx.cell ad ha 0 (es[0]'(by omega)) (by simp)
      have hu := (hc _ _ _ _ h2).1
      have := World.block_lt_of_cell? _ _ (h1 0 (u[0]'(by omega)) (by simp))
      rw [add_block] at this
      omega
theorem Lv.later {α : Type} {c : Nat} {R : Reads α} {X : List Nat} (hst : Stable R) {w w' : World} {ao : Option Addr} {len cap : Nat} {es : List α} (h : Lv c R X w ao len cap es) (hb : Below w.heap.size w w') : Lv c R X w' ao len cap es := ⟨h.lx.later (Rx.st X hst) hb, h.out⟩
theorem Lv.mono {α : Type} {c : Nat} {R : Reads α} {X X' : List Nat} (hst : Stable R) (hc : Plain c R) (h0 : 0 < c) {w : World} {ao : Option Addr} {len cap : Nat} {es : List α} (h : Lv c R X w ao len cap es) (hs : ∀ k ∈ X', k ∈ X ∨ w.heap.size ≤ k) : Lv c R X' w ao len cap es := h.off hst hc h0 (.refl _ _) hs
theorem Lv.nil {α : Type} (c : Nat) (R : Reads α) (X : List Nat) (w : World) : Lv c R X w none 0 0 [] := ⟨Lx.nil _ _ _, fun _ h => by cases h⟩
theorem Lv.take {α : Type} {c : Nat} {R : Reads α} {X : List Nat} {w : World} {ao : Option Addr} {len cap : Nat} {es : List α} (h : Lv c R X w ao len cap es) (k : Nat) (hk : k ≤ len) : Lv c R X w ao k cap (es.take k) := ⟨h.lx.take k hk, fun ad ha h0 => h.out ad ha (by omega)⟩

/-- A list that the call has made, read. -/
theorem Ls.lv {α : Type} {T c : Nat} {R : Reads α} {X : List Nat} (hst : Stable R) (hp : Plain c R) {w : World} {B n : Nat} {ao : Option Addr} {cap : Nat} {es : List α} (h : Ls T c (Rx X R) w B (.slice ao n cap) es) (hX : ∀ k ∈ X, k < B) : Lv c R X w ao n cap es := by
  obtain ⟨ao', cap', e, hl⟩ := h.read (Rx.st X hst) (Rx.pl X hp)
  simp only [Value.slice.injEq] at e
  obtain ⟨rfl, rfl, rfl⟩ := e
  refine ⟨hl, fun ad ha h0 hk => ?_⟩
  obtain ⟨us, _, ho, _⟩ := h
  rcases ho.2 with ⟨h1, _⟩ | ⟨g, cap2, cur, h1, hb, _⟩
  · simp only [Value.slice.injEq] at h1
    rw [h1.1] at ha; cases ha
  · simp only [Value.slice.injEq] at h1
    rw [h1.1] at ha
    cases ha
    have := hX _ hk
    simp at this
    omega

/-- All of a list's blocks are below the heap's end. -/
theorem Lx.low {w : World} {ao : Option Addr} {len cap : Nat} {es : List Ent} (h : Lx 3 RE w ao len cap es) (X : List Nat) (hX : ∀ k ∈ X, w.heap.size ≤ k) : Lv 3 RE X w ao len cap es := by
  refine Lv.mono (X := []) RE.stable RE.plain (by omega) ⟨⟨h.len_eq, h.le, h.top, h.bare, fun ad ha j e he => ?_⟩, fun _ _ _ => by simp⟩ (fun k hk => .inr (hX k hk))
  exact h.cell ad ha j e he

/-- A list of entries as an element. -/
def RL : Reads (List Ent) := fun w S u es => ∃ ao l c, u = [.slice ao l c] ∧ Lv 3 RE S w ao l c es
theorem RL.stable : Stable RL := by
  rintro w w' S S' u es ⟨ao, l, c, hu, h⟩ ho hs
  exact ⟨ao, l, c, hu, h.off RE.stable RE.plain (by omega) ho hs⟩
theorem RL.plain : Plain 1 RL := by
  rintro w S u es ⟨ao, l, c, rfl, h⟩
  exact ⟨rfl, by simp [Value.oneCell']⟩
theorem Tryd.info25 : (Tryd.prog.info? 25).map (fun i => (i.zero, i.size, i.bytes)) = some (some (.slice none 0 0), 1, 24) := by kernel_rfl

theorem Lx.headL {w : World} {ao : Option Addr} {len cap : Nat} {l : List (List Ent)} (h : Lx 1 RL w ao len cap l) (h0 : 0 < len) :
    ∃ b off, ao = some ⟨b, off, none⟩ ∧ ∀ (j : Nat) (es : List Ent), l[j]? = some es → ∃ eo el ec, w.cell? ⟨b, off + j, none⟩ = some (.slice eo el ec) ∧ Lx 3 RE w eo el ec es := by
  obtain ⟨b, off, rfl, hc⟩ := h.head RL.plain (by omega) h0
  refine ⟨b, off, rfl, fun j es he => ?_⟩
  obtain ⟨u, h1, eo, el, ec, rfl, h2⟩ := hc j es he
  exact ⟨eo, el, ec, by simpa using h1 0 _ rfl, h2.read RE.stable⟩

set_option maxHeartbeats 1000000 in
theorem concat_far (ao : Option Addr) (len cap : Nat) (l : List (List Int)) (w : World) (h : Lx 1 RB w ao len cap l) (hf : l.flatten.length ≤ 900000000) (hlen : len ≤ 1000000) (h0 : 0 < len) :
    Calls Tryd.prog 51 #[.slice ao len cap] w fun e w' => ∃ bo lb cb, e = .returned (.slice bo lb cb) ∧ Tx w' bo lb cb l.flatten ∧ (∀ ad, bo = some ad → 0 < lb → w.heap.size ≤ ad.block) ∧ Below w.heap.size w w' := by
  have hl := h.len_eq
  · obtain ⟨b, off, rfl, hc⟩ := h.headB h0
    go_enter Tryd.func51, Tryd.ntmps51
    go_wp2
    go_loop [3, 5, 11] (fun s _ i => ∃ k m : Nat, k ≤ len ∧ i = .int .i64 k ∧ s = .int .i64 m ∧ m ≤ 900000000 ∧ Hid (m = (l.take k).flatten.length)) (fun _ _ i => len - (intOf i).toNat)
    case atStart => exact ⟨0, 0, by omega, rfl, rfl, by omega, by show _ = _; simp⟩
    case round =>
      obtain ⟨k, m, hk, rfl, rfl, hm9, hm⟩ := hrel
      by_cases hk2 : k < len
      · obtain ⟨eo, el, ec, c1, t1⟩ := hc k (l[k]'(by omega)) (by simp)
        have hel := t1.len_eq
        have hs := flat_take_succ l k (l[k]'(by omega)) (by simp)
        have hle := flat_take_le l (k + 1)
        rw [hs, List.length_append, ← hm.out, hel] at hle
        have hs' : Hid (m + el = (l.take (k + 1)).flatten.length) := by show _ = _; rw [hs, List.length_append, ← hm.out, hel]
        clear hs hel
        have hme : m + el ≤ 900000000 := by omega
        go_wp2
        go_round
        case rel => exact ⟨k + 1, m + el, by omega, by go_num, by go_num, hme, hs'⟩
        case measure => simp [intOf]; omega
      · have hkl : k = len := by omega
        go_wp2_with (go_at_call 63; with_reducible refine (grow_nil m m rfl (by omega) w).mono ?_; rintro e w1 ⟨ao1, cap1, rfl, hown1, hb1⟩)
        go_loopw [6, 8, 27] (fun s _ i wr => ∃ (k q : Nat) (ao2 : Option Addr) (cap2 : Nat), k ≤ len ∧ i = .int .i64 k ∧ s = .slice ao2 q cap2 ∧ q ≤ 900000000 ∧ Hid (q = (l.take k).flatten.length) ∧ wr.ownsRow w.heap.size 5 1 (.slice ao2 q cap2) q ((l.take k).flatten.map (Value.int .u8)) ∧ Hid (Bytes (l.take k).flatten) ∧ Below w.heap.size w wr) (fun _ _ i _ => len - (intOf i).toNat)
        case atStart => exact ⟨0, 0, ao1, cap1, by omega, rfl, rfl, by omega, by show _ = _; simp, by simpa using hown1, by show Bytes _; simp [Bytes], hb1⟩
        case round =>
          obtain ⟨k, q, ao2, cap2, hk, rfl, rfl, hq9, hq, hown, hby, hb⟩ := hrel
          by_cases hk2 : k < len
          · obtain ⟨eo, el, ec, c1, t1⟩ := hc k (l[k]'(by omega)) (by simp)
            have c1 := cell_later hb c1
            have t1 := t1.later hb
            have hel := t1.len_eq
            have hs := flat_take_succ l k (l[k]'(by omega)) (by simp)
            have hle := flat_take_le l (k + 1)
            rw [hs, List.length_append, ← hq.out, hel] at hle
            have hs' : Hid (q + el = (l.take (k + 1)).flatten.length) := by show _ = _; rw [hs, List.length_append, ← hq.out, hel]
            have hsH : Hid ((l.take (k + 1)).flatten = (l.take k).flatten ++ l[k]'(by omega)) := hs
            clear hs hel
            have hme : q + el ≤ 900000000 := by omega
            have hbs := hb.size
            have hbr : ∀ n ∈ (l.take k).flatten, 0 ≤ n ∧ n ≤ 255 := hby.out
            generalize l[k]'(by omega) = xs at t1 hsH
            go_wp2_with (with_reducible show wpList _ _ _ (⟨some 33, _, _, _, _, _⟩ :: _) _ _; refine wpList_append_bytes _ rfl _ _ rfl w.heap.size (.slice ao2 q cap2) q (l.take k).flatten rfl hown hbr eo el ec xs rfl t1 (by omega) hbs ?_; intro a5 l5 c5 w5 hl5 hown5 htx5 b5; subst hl5)
            go_roundw
            case rel =>
              refine ⟨k + 1, q + el, a5, c5, by omega, by go_num, rfl, by omega, hs', by rw [hsH.out]; exact hown5, by show Bytes _; rw [hsH.out]; exact Bytes.app hby.out t1.rng, hb.trans b5⟩
            case measure => simp [intOf]; omega
          · have hkl2 : k = len := by omega
            go_wp2
            go_ret
            obtain ⟨ao3, cap3, e3, htx⟩ := Tx.own hown hby.out
            simp only [Value.slice.injEq, true_and] at e3
            obtain ⟨rfl, rfl⟩ := e3
            refine ⟨_, _, _, rfl, ?_, fun ad ha hq0 => ?_, hb⟩
            · rw [hkl2, List.take_of_length_le (by omega)] at htx
              exact htx
            · obtain ⟨g, hg, hge⟩ := own_head hown hq0
              rw [hg] at ha
              cases ha
              exact hge

theorem fput_far (ao bo : Option Addr) (la ca lb cb : Nat) (xs ys : List Int) (w : World) (ha : Tx w ao la ca xs) (hb : Tx w bo lb cb ys) (sa : la ≤ 800000000) (sb : lb ≤ 1048576) :
    Calls Tryd.prog 34 #[.slice ao la ca, .slice bo lb cb] w fun e w' => ∃ co lc cc, e = .returned (.tuple #[.slice co lc cc, .int .i64 0]) ∧ Tx w' co lc cc (xs ++ recL ys) ∧ (∀ ad, co = some ad → 0 < lc → w.heap.size ≤ ad.block) ∧ Below w.heap.size w w' := by
  have e1 := ha.len_eq
  have e2 := hb.len_eq
  have hH := headL_low lb (by omega)
  have hfl : Hid ([xs, low 6 (headN lb), ys].flatten = xs ++ recL ys) := by show _ = _; rw [hH, recL, e2]; simp
  have hfl2 : [xs, low 6 (headN lb), ys].flatten.length ≤ 900000000 := by rw [hfl.out]; simp [length_recL]; omega
  have hn1 : 0 ≤ headN lb := by unfold headN; omega
  have hn2 : headN lb < 18446744073709551616 := by unfold headN; omega
  have hput := fun (V : World) => put_any none 0 0 (headN lb) 6 [] V (Tx.nil V) (by omega) hn1 hn2 (by omega) (by omega)
  have hhead := fun (V : World) => head_any (lb : Int) lb rfl sb V
  generalize headN lb = H at hH hfl hfl2 hn1 hn2 hput hhead
  have hc6 : ([] : List Int) ++ low (clampN 6) H = low 6 H := rfl
  simp only [hc6] at hput
  go_enter Tryd.func34, Tryd.ntmps34
  go_wp2_with (first
    | (go_at_call 52; with_reducible refine (hhead w).mono ?_; rintro e w1 ⟨rfl, rfl⟩)
    | (go_at_call 48; with_reducible refine (hput w).mono ?_; rintro e w1 ⟨po, lp, cp, rfl, tp, b1⟩; have hl3 := lx_three w1 ((ha.later b1).at [] (by simp)) (tp.at [] (by simp)) ((hb.later b1).at [] (by simp)))
    | (go_at_call 51; with_reducible refine (concat_far _ _ _ _ _ hl3 hfl2 (by omega) (by omega)).mono ?_; rintro e w2 ⟨co, lc, cc, rfl, tc, fc, b2⟩))
  go_ret2
  have hs1 : w.heap.size ≤ (w1.alloc (.cells #[.slice ao la ca, .slice po lp cp, .slice bo lb cb] 27)).heap.size := by have := b1.size; simp; omega
  refine ⟨co, lc, cc, rfl, by rw [← hfl.out]; exact tc, fun ad ha h0 => Nat.le_trans hs1 (fc ad ha h0), (b1.alloc b1.size _).trans (b2.mono hs1)⟩

end Go.Proofs.YtgleblfkcdkaeaaDoor
