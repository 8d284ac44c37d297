/- The walk of FrameBack: what was written is read; of a beginning of a row the first records. -/
import Derived.Test.YtondfbjldonogaaApart
import Derived.Test.YtondfbjldonogaaWalksJ
import Derived.Test.YtondfbjldonogaaWalksN
namespace Go.Proofs.Ytondfbjldonogaa
open Go.RowKit

theorem rowL_small : ∀ (l : List (List Int)) (m : Nat), (∀ x ∈ l, x.length ≤ m) → (rowL l).length ≤ l.length * (m + 6)
  | [], m, _ => by simp [rowL]
  | x :: l, m, h => by
    have h1 := h x (by simp)
    have h2 := rowL_small l m (fun y hy => h y (by simp [hy]))
    have e : rowL (x :: l) = recL x ++ rowL l := rfl
    rw [e, List.length_append, length_recL, List.length_cons, Nat.add_mul]
    omega
theorem fewL_small (n m : Nat) (l : List (List Int)) : (fewL n m l).length ≤ n ∧ ∀ x ∈ fewL n m l, x.length ≤ m := by
  refine ⟨by simp [fewL]; omega, fun x hx => ?_⟩
  obtain ⟨y, _, rfl⟩ := List.mem_map.1 hx
  simp; omega
theorem fall_ok (ao : Option Addr) (la ca : Nat) (xs : List Int) (w : World) (ha : Tx w ao la ca xs) (sa : la ≤ 900000000) (L : List (List Int)) (NN : Nat) (hall : allL xs = (L, NN, true)) :
    Calls Try.prog 22 #[.slice ao la ca] w fun e w' => ∃ bo lb cb, e = .returned (.tuple #[.slice bo lb cb, .int .i64 NN, .int .i64 0]) ∧ Lx 1 RB w' bo lb cb L ∧ Below w.heap.size w w' := by
  refine (fall_any ao la ca xs w ha sa).mono ?_
  rintro e w' ⟨bo, lb, cb, rfl, hx, hb⟩
  rw [hall] at hx ⊢
  exact ⟨bo, lb, cb, rfl, hx, hb⟩
theorem ents_yes (ao : Option Addr) (la ca : Nat) (xs : List Int) (w : World) (ha : Tx w ao la ca xs) (sa : la ≤ 900000000) (es : List Ent) (hp : entriesL xs = some es) :
    Calls Try.prog 25 #[.slice ao la ca] w fun e w' => ∃ bo lb cb, e = .returned (.tuple #[.slice bo lb cb, .int .i64 0]) ∧ Lx 3 RE w' bo lb cb es ∧ Below w.heap.size w w' := by
  refine (fents_any ao la ca xs w ha sa).mono ?_
  rintro e w' (⟨es', bo, lb, cb, h1, he, hx, hb⟩ | ⟨h1, _⟩)
  · rw [hp] at h1
    cases h1
    exact ⟨bo, lb, cb, he, hx, hb⟩
  · rw [hp] at h1; cases h1

set_option maxHeartbeats 8000000 in
set_option maxRecDepth 100000 in
theorem back_walk (ao : Option Addr) (la ca : Nat) (l : List (List Int)) (bo : Option Addr) (lb cb : Nat) (m : List Ent) (cut : Int) (c1 : -9223372036854775808 ≤ cut) (c2 : cut ≤ 9223372036854775807) (w : World) (hl : Lx 1 RB w ao la ca l) (hm : Lx 3 RE w bo lb cb m) :
    Calls Try.prog 6 #[.slice ao la ca, .slice bo lb cb, .int .i64 cut] w fun e w' => e = .returned (.bool true) ∧ Below w.heap.size w w' := by
  obtain ⟨f1, f2⟩ := fewL_small 8 60 l
  have hrl := rowL_small (fewL 8 60 l) 60 f2
  have k1 := few_any ao la ca l 8 60 8 60 rfl rfl (by omega) (by omega) w hl
  generalize fewL 8 60 l = L at f1 f2 hrl k1
  have hrl' : (rowL L).length ≤ 528 := by
    have := Nat.mul_le_mul_right 66 f1
    omega
  have hrow := allL_row L (fun x hx => by have := f2 x hx; omega)
  have hcut := allL_cut L (fun x hx => by have := f2 x hx; omega)
  have mp := keep_may 12 60 80 m (by omega) (by omega) (by omega)
  have sp := keep_short 12 60 80 m (by omega) (by omega) (by omega)
  have lp : (keepL 12 60 80 m).length ≤ 12 := by simp [keepL]; omega
  have hent := entries_batch _ mp
  have hsame := sameL_norm (keepL 12 60 80 m)
  have lq : ((keepL 12 60 80 m).map norm).length ≤ 12 := by rw [List.length_map]; exact lp
  have k2 := fun V (h : Below w.heap.size w V) => keep_any bo lb cb m 12 60 80 12 60 80 rfl rfl rfl (by omega) (by omega) (by omega) V (hm.later RE.stable h)
  generalize keepL 12 60 80 m = p at mp sp lp lq hent hsame k2
  generalize p.map norm = q at lq hent hsame
  clear hrl hl hm
  go_enter Try.func6, Try.ntmps6
  go_wp2_with (go_at_call 15; with_reducible refine k1.mono ?_; rintro e w1 ⟨po, lo, pc, rfl, x1, B1⟩; have hlo := x1.len_eq; have hpc := x1.le; have hpt := x1.top)
  unfold maxLen at hpt
  have hlo8 : lo ≤ 8 := by omega
  go_loopw [7, 8, 9] (fun b e i wr => ∃ (k n : Nat) (so : Option Addr) (sc : Nat), k ≤ lo ∧ i = .int .i64 k ∧ b = .slice so n sc ∧ e = .int .i64 0 ∧ Tx wr so n sc (rowL (L.take k)) ∧ Below w1.heap.size w1 wr) (fun _ _ i _ => lo - (intOf i).toNat)
  case atStart => exact ⟨0, 0, none, 0, by omega, rfl, rfl, rfl, by simpa [rowL] using Tx.nil w1, Below.refl _ _⟩
  case round =>
    obtain ⟨k, n, so, sc, hk, rfl, rfl, rfl, t, hb⟩ := hrel
    by_cases hk2 : k < lo
    · obtain ⟨eb, eoff, rfl, hc⟩ := x1.headB (by omega)
      have hx : L[k]? = some (L[k]'(by omega)) := by simp
      obtain ⟨eo, el, ec, c0, te⟩ := hc k _ hx
      have hsx := f2 _ (List.mem_of_getElem? hx)
      have hsu : Hid (rowL (L.take (k + 1)) = rowL (L.take k) ++ recL (L[k]'(by omega))) := rowL_take_succ L k _ hx
      have hle := rowL_take_le L k
      generalize L[k]'(by omega) = x at te hsx hsu
      have c0 := cell_later hb c0
      have te := te.later hb
      have hel := te.len_eq
      have hn := t.len_eq
      have hcall := fput_any so eo n sc el ec _ x wr t te (by omega) (by omega)
      generalize rowL (L.take k) = R at t hsu hcall hle hn
      go_wp2_with (go_at_call 13; with_reducible refine hcall.mono ?_; rintro e w2 ⟨a2, n2, s2, rfl, t2, b2⟩)
      go_roundw
      case rel => exact ⟨k + 1, n2, a2, s2, by omega, by go_num, rfl, rfl, by rw [hsu.out]; exact t2, hb.trans (b2.mono hb.size)⟩
      case measure => simp [intOf]; omega
    · rw [List.take_of_length_le (by omega)] at t
      have hn := t.len_eq
      have hn9 : n ≤ 528 := by omega
      obtain ⟨r1, r2⟩ := wfun_rng cut 0 (n : Int) (by omega)
      obtain ⟨C, hC⟩ : ∃ C : Nat, Hid (wfun cut 0 (n : Int) = (C : Int)) := ⟨(wfun cut 0 (n : Int)).toNat, by show _ = _; omega⟩
      have hwi := fun V => within_eq cut 0 (n : Int) c1 c2 (by omega) (by omega) (by omega) V
      rw [hC.out] at hwi r1 r2
      have hCn : C ≤ n := by omega
      obtain ⟨M, hM1, hM2, hM3, hM4⟩ := hcut C
      have hcut2 : allL ((rowL L).take C) = (L.take M, (allL ((rowL L).take C)).2.1, true) := by rw [← hM2, ← hM4]
      generalize (allL ((rowL L).take C)).2.1 = N2 at hM3 hcut2
      rw [hn] at hrow
      have hsc := t.le
      have hst := t.top
      unfold maxLen at hst
      have x1 := x1.later RB.stable hb
      have BW := B1.trans (hb.mono B1.size)
      clear k1 hcut hM2 hM4 f2 hC r1 r2
      generalize rowL L = X at t hrow hcut2 hn hrl'
      have hMl : (L.take M).length = M := by rw [List.length_take]; omega
      go_wp2_with (first
        | (go_at_call 22; with_reducible refine (fall_ok so n sc X wr t (by omega) L n hrow).mono ?_; rintro e w2 ⟨qo, ql, qc, rfl, x2, b2⟩; have t2 := t.later b2; have x12 := x1.later RB.stable b2; have hql := x2.len_eq)
        | (go_at_call 23; with_reducible refine (lists_any qo po ql qc lo pc L L w2 x2 x12 rfl (by omega)).mono ?_; rintro e w3 ⟨rfl, b3⟩; have t3 := t2.later b3; have x13 := x12.later RB.stable b3; have b13 := b2.trans (b3.mono b2.size))
        | (go_at_call 16; with_reducible refine (hwi w3).mono ?_; rintro e w4 ⟨rfl, rfl⟩; have t4 := t3.take C hCn)
        | (go_at_call 22; with_reducible refine (fall_ok so C sc (X.take C) w3 t4 (by omega) (L.take M) N2 hcut2).mono ?_; rintro e w5 ⟨uo, ul, uc, rfl, x5, b5⟩; have x15 := x13.later RB.stable b5; have hul := x5.len_eq; have hul1 : ul ≤ M := (by omega); have hul2 : M ≤ ul := (by omega); have hul3 : ul ≤ lo := (by omega); have x16 := x15.take ul hul3; have b15 := b13.trans (b5.mono b13.size); have hN2 : N2 ≤ n := (by omega))
        | (go_at_call 23; with_reducible refine (lists_any uo po ul uc ul pc (L.take M) (L.take ul) w5 x5 x16 (by rw [show M = ul by omega]) (by omega)).mono ?_; rintro e w6 ⟨rfl, b6⟩; have b16 := b15.trans (b6.mono b15.size); have B6 := BW.trans (b16.mono BW.size); have k3 := k2 w6 B6)
        | (go_at_call 21; with_reducible refine k3.mono ?_; rintro e w7 ⟨vo, vl, vc, rfl, x7, b7⟩; have B7 := B6.trans (b7.mono B6.size); have hvl := x7.len_eq)
        | (go_at_call 24; with_reducible refine (fbatch_yes vo vl vc p w7 x7 mp).mono ?_; rintro e w8 ⟨yo, yl, yc, rfl, t8, b8⟩; have x8 := x7.later RE.stable b8; have B8 := B7.trans (b8.mono B7.size); have hyl := t8.len_eq)
        | (go_at_call 25; with_reducible refine (ents_yes yo yl yc (batchL p) w8 t8 (by omega) q hent).mono ?_; rintro e w9 ⟨zo, zl, zc, rfl, x9, b9⟩; have x89 := x8.later RE.stable b9; have B9 := B8.trans (b9.mono B8.size); have hzl := x9.len_eq; have hs8 := same8_any vo zo vl vc zl zc p q w9 x89 x9 (by omega) (by omega); rw [hsame] at hs8)
        | (go_at_call 26; with_reducible refine hs8.mono ?_; rintro e w10 ⟨rfl, b10⟩; have B10 := B9.trans (b10.mono B9.size))
        | (go_at_call 14; with_reducible refine (known_any w10).mono ?_; rintro e w11 ⟨rfl, b11⟩))
      go_ret
      exact ⟨rfl, B10.trans (b11.mono B10.size)⟩

end Go.Proofs.Ytondfbjldonogaa
