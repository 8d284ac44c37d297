/- manifest.Decode of bytes that are as many as they tell. -/
import Derived.Test.YtgleblfkcdkaeaaDoorMDec
import Derived.Deep.RegionHeldLaw
namespace Go.Proofs.YtgleblfkcdkaeaaDoor
set_option maxRecDepth 100000
open Go.RowKit Go.Sort

theorem Tryd.info3a : (Tryd.prog.info? 3).map (fun i => (i.zero, i.size, i.bytes)) = some (some (.int .i64 0), 1, 8) := by kernel_rfl

/-- Decode's loop: k numbers are read. -/
structure DRel (w wr : World) (N la ca : Nat) (b o : Nat) (ys : List Int) (k : Nat) (bo : Option Addr) (cb : Nat) : Prop where
  ls : Ls 3 1 RI wr (w.heap.size + 2) (.slice bo k cb) (nums k ys)
  r : Mb wr w.heap.size (.slice none 0 0) (.int .i64 0) (.int .i64 0)
  t : Mb wr (w.heap.size + 1) (.slice bo k cb) (.int .i64 0) (.int .i64 0)
  b : Below w.heap.size w wr

theorem drel_next {w wr w9 : World} {N la ca b o k : Nat} {bo ao' : Option Addr} {cb cap' n' : Nat} {ys : List Int} {x : Int} {ob : Obj} (R : DRel w wr N la ca b o ys k bo cb) (hx : nums (k + 1) ys = nums k ys ++ [x]) (hn : n' = k + 1)
    (L : Ls 3 1 RI w9 (w.heap.size + 2) (.slice ao' n' cap') (nums k ys ++ [x])) (O : Off (own (.slice bo k cb)) (wr.alloc ob).drew w9) (hs : ∀ i ∈ own (.slice ao' n' cap'), i ∈ own (.slice bo k cb) ∨ (wr.alloc ob).drew.heap.size ≤ i) :
    DRel w (w9.setCell ⟨w.heap.size + 1, 0, none⟩ (.slice ao' n' cap')) N la ca b o ys (k + 1) ao' cap' := by
  subst hn
  obtain ⟨ls, mr, mt, hbw⟩ := R
  have hd : Below wr.heap.size wr (wr.alloc ob).drew := ((Below.refl _ _).alloc (Nat.le_refl _) ob).drew
  have h1 : ∀ j, j ≤ w.heap.size + 1 → j ∉ own (.slice bo k cb) := fun j hj hi => by have := (ls.lt _ hi).2; omega
  have m9 := (mt.later hd).off O (h1 _ (by omega))
  have r9 := (mr.later hd).off O (h1 _ (by omega))
  have hB : Below w.heap.size w w9 := (hbw.trans (hd.mono hbw.size)).trans (O.below (fun i hi => by have := (ls.lt i hi).2; omega) (by have := hbw.size; have := hd.size; omega))
  have hO : Off [w.heap.size + 1] w9 (w9.setCell ⟨w.heap.size + 1, 0, none⟩ (.slice ao' (k + 1) cap')) := (Off.refl _ _).setCell (p := ⟨w.heap.size + 1, 0, none⟩) (by simp) _
  rw [← hx] at L
  refine ⟨?_, r9.off hO (by simp), m9.set0 _, hB.setCell (p := ⟨w.heap.size + 1, 0, none⟩) (by simp) _⟩
  obtain ⟨us, u1, u2, u3⟩ := L
  have hne : ∀ i ∈ own (.slice ao' (k + 1) cap'), i ∉ [w.heap.size + 1] := fun i hi => by have := (own_lt u2 i hi).2; simp; omega
  exact ⟨us, u1, rows_offB u2 hO hne, u3⟩

set_option maxHeartbeats 8000000 in
theorem decode_fit (ao : Option Addr) (la ca : Nat) (xs : List Int) (w : World) (h : Tx w ao la ca xs) (hl9 : la ≤ 900000000) (hf : FitM xs) :
    Calls Tryd.prog 32 #[.slice ao la ca] w fun e w' => (¬ (manOf xs).Right ∧ e = .returned (.tuple #[nilMan, .int .i64 12]) ∧ Below w.heap.size w w') ∨ (∃ bo lb cb, (manOf xs).Right ∧ e = .returned (.tuple #[.agg #[.slice bo lb cb, .int .i64 (manOf xs).wal, .int .i64 (manOf xs).nxt], .int .i64 0]) ∧ Lx 1 RI w' bo lb cb (manOf xs).ts ∧ (∀ ad, bo = some ad → w.heap.size ≤ ad.block) ∧ Below w.heap.size w w') := by
  have e1 := h.len_eq
  have hb : Bytes xs := h.rng
  have hbl : Below w.heap.size w (w.alloc (.cells #[.slice none 0 0, .int .i64 0, .int .i64 0] 24)) := (Below.refl _ _).alloc (Nat.le_refl _) _
  obtain ⟨hf1, hf2⟩ := hf
  have ge := get_yes 1 1 rfl (by omega) ao la ca xs _ (h.later hbl) (by omega) (by omega)
  have hn := num1_at xs hb (by omega)
  have hr : 0 ≤ num1 xs ∧ num1 xs ≤ 255 := by
    match xs, hf1, hb with
    | x :: xs, _, hb => exact hb.head
  rw [show ((1 : Nat) : Int) = 1 from rfl, hn] at ge
  obtain ⟨n, hn⟩ : ∃ n : Nat, Hid (num1 xs = (n : Int)) := ⟨(num1 xs).toNat, by show _ = _; omega⟩
  have hlen : la = 7 + 3 * n := by rw [hn.out] at hf2; simp at hf2; omega
  have hl1 : la ≤ 7 + 3 * n := by omega
  have hl2 : 7 + 3 * n ≤ la := by omega
  clear hlen
  rw [hn.out] at ge hr
  have hw : IntKind.i64.wrap (n : Int) = (n : Int) := by rw [IntKind.wrap_i64]; omega
  obtain ⟨b, off, rfl, _⟩ := h.head (by omega)
  have hle := h.le
  have htop := h.top
  unfold maxLen at htop
  have hm : manOf xs = ⟨nums n (xs.drop 1), num3 (xs.drop (1 + 3 * n)), num3 (xs.drop (4 + 3 * n))⟩ := by unfold manOf; rw [hn.out]; rfl
  rw [hm]
  simp only
  have hca : ¬ ca = 1 := by omega
  have hlq : ((la : Int) != 1 + ((n : Int) + 2) * 3) = false := by simp; omega
  clear hf1 hf2
  have td := fun (W : World) (hB : Below w.heap.size w W) (k : Nat) (hk : 1 + 3 * k ≤ la) => (h.later hB).drop (1 + 3 * k) hk
  have nm := fun (W : World) (hB : Below w.heap.size w W) (k : Nat) (hk : 4 + 3 * k ≤ la) => number_any _ _ _ _ W (td W hB k (by omega)) (by omega) (by omega)
  go_enter Tryd.func32, Tryd.ntmps32
  go_wp2_with fail
  with_reducible refine ge.mono ?_
  rintro e w1 ⟨rfl, rfl⟩
  clear ge
  go_wp2
  go_loopw [7, 29] (fun rest i wr => ∃ (k : Nat) (bo : Option Addr) (cb lr cr : Nat), k ≤ n ∧ i = .int .u64 k ∧ rest = .slice (some ⟨b, off + (1 + 3 * k), none⟩) lr cr ∧ Hid (lr = la - (1 + 3 * k)) ∧ Hid (cr = ca - (1 + 3 * k)) ∧ DRel w wr n la ca b off (xs.drop 1) k bo cb) (fun _ i _ => n - (intOf i).toNat)
  case atStart =>
    refine ⟨0, none, 0, _, _, by omega, rfl, rfl, by show _ = _; simp, by show _ = _; simp, ?_⟩
    have m1 := (Mb.new w (.slice none 0 0) (.int .i64 0) (.int .i64 0)).later ((Below.refl _ _).alloc (Nat.le_refl _) (.cells #[.slice none 0 0, .int .i64 0, .int .i64 0] 24))
    have m2 := Mb.new (w.alloc (.cells #[.slice none 0 0, .int .i64 0, .int .i64 0] 24)) (.slice none 0 0) (.int .i64 0) (.int .i64 0)
    rw [show (w.alloc (.cells #[.slice none 0 0, .int .i64 0, .int .i64 0] 24)).heap.size = w.heap.size + 1 by simp] at m2
    exact ⟨Ls.nil _ _ _ _ _, m1, m2, below_trans hbl ((Below.refl _ _).alloc (Nat.le_refl _) _)⟩
  case round =>
    obtain ⟨k, bo, cb, lr, cr, hk, rfl, rfl, hlr, hcr, R⟩ := hrel
    have hR := R
    obtain ⟨ls, mr, mt, hbw⟩ := R
    by_cases hkn : k < n
    · have hlr1 : lr = la - (1 + 3 * k) := hlr.out
      have hcr1 : cr = ca - (1 + 3 * k) := hcr.out
      have hcr3 : ¬ cr = 3 := by omega
      have hsz : w.heap.size + 2 ≤ wr.heap.size := by have := mt.lt; omega
      have hnum := fun (W : World) (hB : Below w.heap.size w W) => nm W hB k (by omega)
      rw [← hlr1, ← hcr1] at hnum
      have hl3 : 3 ≤ lr := by omega
      have hl4 : lr ≤ cr := by omega
      clear hlr1 hcr1
      have hx : i64ok (num3 (xs.drop (1 + 3 * k))) := by have := num3_rng (hb.drop (1 + 3 * k)); unfold i64ok; omega
      have hns := nums_succ k (xs.drop 1)
      rw [List.drop_drop] at hns
      have hnx := fun {w9 : World} {ao' : Option Addr} {cap' n' : Nat} {ob : Obj} => drel_next (w9 := w9) (ao' := ao') (cap' := cap') (n' := n') (ob := ob) hR hns
      generalize num3 (xs.drop (1 + 3 * k)) = x at hnum hx hns hnx
      have hcell : wr.drew.cell? ⟨w.heap.size + 1, 0, none⟩ = some (.slice bo k cb) := mt.c0
      have hcell2 : ∀ o, (wr.alloc o).drew.cell? ⟨w.heap.size + 1, 0, none⟩ = some (.slice bo k cb) := fun o => (mt.later ((Below.refl _ _).alloc (Nat.le_refl _) o)).c0
      have hbd : Below w.heap.size w wr.drew := hbw.drew
      have hL := fun (W : World) (hB : Below wr.heap.size wr W) => ls.later RI.stable hB
      have hnl := nums_length k (xs.drop 1)
      generalize nums k (xs.drop 1) = ks at hns hL hnl ls hnx
      clear hR hns
      have hback : ∀ (o : Obj) (w9 : World), Off (own (.slice bo k cb)) (wr.alloc o).drew w9 → w9.cell? ⟨w.heap.size + 1, 0, none⟩ = some (.slice bo k cb) ∧ w9.frozen? ⟨w.heap.size + 1, 0, none⟩ = false ∧ Below w.heap.size w w9 := by
        intro o w9 O9
        have hd : Below wr.heap.size wr (wr.alloc o).drew := ((Below.refl _ _).alloc (Nat.le_refl _) o).drew
        have hno : w.heap.size + 1 ∉ own (.slice bo k cb) := fun hi => by have := (ls.lt _ hi).2; omega
        have m9 := (mt.later hd).off O9 hno
        exact ⟨m9.c0, m9.z 0, (hbw.trans (hd.mono hbw.size)).trans (O9.below (fun i hi => by have := (ls.lt i hi).2; omega) (by have := hbw.size; have := hd.size; omega))⟩
      have hln : ¬ la < 0 := by omega
      go_wp2
      go_region_law (first
        | (go_simp; go_at_call 50; with_reducible refine (hnum _ hbd).mono ?_; rintro e W2 ⟨rfl, rfl⟩)
        | (refine step_one RI.stable RI.plain Tryd.underlying22 Tryd.info3a rfl (by decide) (by decide) rfl (.tmp 32) (.tmp 35) rfl (w.heap.size + 2) (.slice bo k cb) ks rfl (hL _ (by first | exact ((Below.refl _ _).alloc (Nat.le_refl _) _).drew | exact ((Below.refl _ _).drew).alloc (Nat.le_refl _) _)) ⟨_, 0, none⟩ 1 [.int .i64 x] x rfl (fun j y hy => lx_cell_one _ _ _ j y hy) ⟨rfl, hx⟩ (by omega) (by simp; omega) ?_; intro ao' n' cap' w9 hn' L9 O9 hs9; obtain rfl : n' = k + 1 := (by omega); clear hn'; obtain ⟨c9, z9, B9⟩ := hback _ _ O9))
      all_goals
        have hnext := hnx (by omega) L9 O9 hs9
        go_wp2
        go_round
        case rel => exact ⟨k + 1, ao', cap', lr - 3, cr - 3, by omega, by go_num, by rw [show off + (1 + 3 * (k + 1)) = off + (1 + 3 * k) + 3 by omega], by show _ = _; rw [hlr.out]; omega, by show _ = _; rw [hcr.out]; omega, hnext⟩
        case measure => simp [intOf]; omega
    · have hkk : k = n := by omega
      have hlr1 : lr = 6 := by have := hlr.out; omega
      have hcr1 : cr = ca - (1 + 3 * k) := hcr.out
      have hcr3 : ¬ cr = 3 := by omega
      have hlc : 6 ≤ cr := by omega
      have hn1 := fun (W : World) (hB : Below w.heap.size w W) => nm W hB k (by omega)
      have hn2 := fun (W : World) (hB : Below w.heap.size w W) => nm W hB (k + 1) (by omega)
      have ef : la - (1 + 3 * k) = 6 := by omega
      rw [ef, ← hcr1] at hn1
      rw [show la - (1 + 3 * (k + 1)) = 3 by omega, show ca - (1 + 3 * (k + 1)) = cr - 3 by omega, show off + (1 + 3 * (k + 1)) = off + (1 + 3 * k) + 3 by omega, show 1 + 3 * (k + 1) = 4 + 3 * n by omega] at hn2
      subst hlr1
      rw [hkk] at hn1 hn2 ls mt
      have hx1 := num3_rng (hb.drop (1 + 3 * n))
      have hx2 := num3_rng (hb.drop (4 + 3 * n))
      obtain ⟨x, hX⟩ : ∃ x, Hid (num3 (xs.drop (1 + 3 * n)) = x) := ⟨_, rfl⟩
      obtain ⟨y, hY⟩ : ∃ y, Hid (num3 (xs.drop (4 + 3 * n)) = y) := ⟨_, rfl⟩
      rw [hX.out] at hn1 hx1
      rw [hY.out] at hn2 hx2
      subst hkk
      clear hlr hcr hR nm td ef hcr1
      have c1 := mt.c1
      have c2 := mt.c2
      have z1 := mt.z 1
      have z2 := mt.z 2
      go_wp2
      go_region_with (first
        | (go_at_call 50; with_reducible refine (hn1 _ (by first | exact hbw.drew | exact hbw.drew.setCell (p := ⟨w.heap.size + 1, 1, none⟩) (by simp) _)).mono ?_; rintro e W2 ⟨rfl, rfl⟩)
        | (go_at_call 50; with_reducible refine (hn2 _ (by first | exact hbw.drew | exact hbw.drew.setCell (p := ⟨w.heap.size + 1, 1, none⟩) (by simp) _)).mono ?_; rintro e W2 ⟨rfl, rfl⟩))
      obtain ⟨W, hW, mw, rw', lw, bw⟩ : ∃ W, W = ((wr.setCell ⟨w.heap.size + 1, 1, none⟩ (.int .i64 x)).setCell ⟨w.heap.size + 1, 2, none⟩ (.int .i64 y)).drew ∧ Mb W (w.heap.size + 1) (.slice bo k cb) (.int .i64 x) (.int .i64 y) ∧ Mb W w.heap.size (.slice none 0 0) (.int .i64 0) (.int .i64 0) ∧ (∃ ao' cap', Value.slice bo k cb = .slice ao' k cap' ∧ Lx 1 RI W ao' k cap' (nums k (xs.drop 1)) ∧ (∀ ad, ao' = some ad → w.heap.size ≤ ad.block) ∧ ∀ V, Below W.heap.size W V → ∀ V', Off [w.heap.size] V V' → Lx 1 RI V' ao' k cap' (nums k (xs.drop 1))) ∧ Below w.heap.size w W := by
        have hO : Off [w.heap.size + 1] wr ((wr.setCell ⟨w.heap.size + 1, 1, none⟩ (.int .i64 x)).setCell ⟨w.heap.size + 1, 2, none⟩ (.int .i64 y)).drew := (((Off.refl _ _).setCell (p := ⟨w.heap.size + 1, 1, none⟩) (by simp) _).setCell (p := ⟨w.heap.size + 1, 2, none⟩) (by simp) _).drew
        have hms := (mt.set1 (.int .i64 x)).set2 (.int .i64 y)
        refine ⟨_, rfl, ⟨hms.c0, hms.c1, hms.c2, hms.z⟩, mr.off hO (by simp), ?_, hO.below (by simp) hbw.size |> hbw.trans⟩
        obtain ⟨us, u1, u2, u3⟩ := ls
        have hne : ∀ i ∈ own (.slice bo k cb), i ∉ [w.heap.size + 1] := fun i hi => by have := (own_lt u2 i hi).2; simp; omega
        have hL0 : Ls 3 1 RI ((wr.setCell ⟨w.heap.size + 1, 1, none⟩ (.int .i64 x)).setCell ⟨w.heap.size + 1, 2, none⟩ (.int .i64 y)).drew (w.heap.size + 2) (.slice bo k cb) (nums k (xs.drop 1)) := ⟨us, u1, rows_offB u2 hO hne, u3⟩
        have h0 := Ls.read RI.stable RI.plain hL0
        rw [nums_length] at h0
        obtain ⟨ao', cap', hv, h0⟩ := h0
        refine ⟨ao', cap', hv, h0, fun ad ha => by have := (hL0.lt ad.block (by rw [hv, ha]; simp [own, Value.ownBlock])).2; omega, fun V hV V' hV' => ?_⟩
        obtain ⟨us, u1, u2, u3⟩ := hL0.later RI.stable hV
        have hne : ∀ i ∈ own (.slice bo k cb), i ∉ [w.heap.size] := fun i hi => by have := (own_lt u2 i hi).2; simp; omega
        have h1 := Ls.read RI.stable RI.plain (⟨us, u1, rows_offB u2 hV' hne, u3⟩ : Ls 3 1 RI V' (w.heap.size + 2) (.slice bo k cb) (nums k (xs.drop 1)))
        rw [nums_length, hv] at h1
        obtain ⟨a2, c2, hv2, h1⟩ := h1
        cases hv2
        exact h1
      rw [← hW]
      clear hW
      obtain ⟨ao', cap', hv, hl, hnew, hlf⟩ := lw
      cases hv
      have hcr' := right_any bo k cb (nums k (xs.drop 1)) x y W hl (by unfold i64ok; omega) (by unfold i64ok; omega)
      have mw0 := mw.c0
      have mw1 := mw.c1
      have mw2 := mw.c2
      clear mw mr mt ls c1 c2 z1 z2 hn1 hn2
      go_wp2_with fail
      with_reducible refine hcr'.mono ?_
      rintro e W3 ⟨rfl, hb3⟩
      have r3 := rw'.later hb3
      have mw0 := cell_later hb3 mw0
      have mw1 := cell_later hb3 mw1
      have mw2 := cell_later hb3 mw2
      have q0 := r3.c0
      have q1 := r3.c1
      have q2 := r3.c2
      have f0 := r3.z 0
      have f1 := r3.z 1
      have f2 := r3.z 2
      have hl3 := fun V' => hlf W3 hb3 V'
      clear hlf hl
      have b3 := bw.trans (hb3.mono bw.size)
      by_cases hRR : Man.Right ⟨nums k (xs.drop 1), x, y⟩
      · have hT : Hid (Man.Right ⟨nums k (xs.drop 1), x, y⟩) := hRR
        rw [decide_eq_true hRR]
        clear hRR
        go_wp2
        try simp only [Exit.inBlock, Exit.then]
        refine bodyPost_ret (results_cell2 rfl rfl (((r3.set0 _).set1 _).set2 _).load) rfl ?_
        rw [hX.out, hY.out]
        have hO : Off [w.heap.size] W3 (((W3.setCell ⟨w.heap.size, 0, none⟩ (.slice bo k cb)).setCell ⟨w.heap.size, 1, none⟩ (.int .i64 x)).setCell ⟨w.heap.size, 2, none⟩ (.int .i64 y)) := (((Off.refl _ _).setCell (p := ⟨w.heap.size, 0, none⟩) (by simp) _).setCell (p := ⟨w.heap.size, 1, none⟩) (by simp) _).setCell (p := ⟨w.heap.size, 2, none⟩) (by simp) _
        exact .inr ⟨bo, k, cb, hT.out, rfl, hl3 _ hO, hnew, b3.trans (hO.below (by simp) b3.size)⟩
      · have hT : Hid (¬ Man.Right ⟨nums k (xs.drop 1), x, y⟩) := hRR
        rw [decide_eq_false hRR]
        clear hRR
        go_wp2
        try simp only [Exit.inBlock, Exit.then]
        refine bodyPost_ret (results_cell2 rfl rfl (((r3.set0 _).set1 _).set2 _).load) rfl ?_
        rw [hX.out, hY.out]
        have hO : Off [w.heap.size] W3 (((W3.setCell ⟨w.heap.size, 0, none⟩ (.slice none 0 0)).setCell ⟨w.heap.size, 1, none⟩ (.int .i64 0)).setCell ⟨w.heap.size, 2, none⟩ (.int .i64 0)) := (((Off.refl _ _).setCell (p := ⟨w.heap.size, 0, none⟩) (by simp) _).setCell (p := ⟨w.heap.size, 1, none⟩) (by simp) _).setCell (p := ⟨w.heap.size, 2, none⟩) (by simp) _
        exact .inl ⟨hT.out, rfl, b3.trans (hO.below (by simp) b3.size)⟩
end Go.Proofs.YtgleblfkcdkaeaaDoor
