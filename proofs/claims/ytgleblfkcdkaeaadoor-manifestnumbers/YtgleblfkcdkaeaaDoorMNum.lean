/- The walk of ManifestNumbers. -/
import Derived.Test.YtgleblfkcdkaeaaDoorMNumA
import Derived.Laws.MakeOwn
import Derived.Deep.RegionHeldLaw
namespace Go.Proofs.YtgleblfkcdkaeaaDoor
set_option maxRecDepth 100000
open Go.RowKit Go.Sort

theorem step_app_g {ops : Array Oper} {o : Oper} {a : Act} {w : World} {K : Act → World → Prop} {Q : Exit → Act → World → Prop} {E : Prop}
    (hw : Region.wanted o (yielded ops a.tmps) = true) (s x : Operand) (hop : o.op = Op.call { callee := Callee.builtin Builtin.append, args := #[s, x], argTypes := #[27, 27] })
    (B : Nat) (v : Value) (n : Nat) (xs : List Int) (hs : a.eval s = v) (hown : w.ownsRow B 5 1 v n (xs.map (Value.int .u8)))
    (ao : Option Addr) (m c : Nat) (ys : List Int) (hx : a.eval x = .slice ao m c) (ht : Tx w ao m c ys) (b : n + m ≤ 1000000000) (hB : B ≤ w.heap.size)
    (hK : ∀ bo' q cap' w', Hid (q = n + m) → w'.ownsRow B 5 1 (.slice bo' q cap') q ((xs ++ ys).map (Value.int .u8)) → Below B w w' → K (a.put o.dst (.slice bo' q cap')) w') :
    if Region.wanted o (yielded ops a.tmps) = true then Oper.wp Tryd.prog o a w K Q else E := by
  rw [if_pos hw]
  obtain ⟨v', w', hrun, hown', hoff, hsub⟩ := run_app B w o.type v n xs hown ao m c ys ht b hB
  obtain ⟨bo', cap', rfl⟩ := own_form hown'
  unfold Oper.wp
  simp [execOp, hop, resolve, invoke, builtin, hs, hx, hrun, Result.andThen]
  exact hK bo' (n + m) cap' w' rfl hown' (hoff.below (fun k hk => (own_lt hown k hk).2) hB)

theorem own_tx {w : World} {B : Nat} {ao : Option Addr} {n cap : Nat} {xs : List Int} (h : w.ownsRow B 5 1 (.slice ao n cap) n (xs.map (Value.int .u8))) (hr : ∀ x ∈ xs, 0 ≤ x ∧ x ≤ 255) : Tx w ao n cap xs := by
  obtain ⟨ao', cap', e, t⟩ := Tx.own h hr
  cases e
  exact t

/-- The k-th list of a row of lists. -/
def At3 (V : World) (g k : Nat) : Prop := ∃ (ao : Option Addr) (la ca : Nat) (ts : List Int) (wl nx : Int), V.cell? ⟨g, k * 3, none⟩ = some (.slice ao la ca) ∧ V.cell? ⟨g, k * 3 + 1, none⟩ = some (.int .i64 wl) ∧ V.cell? ⟨g, k * 3 + 2, none⟩ = some (.int .i64 nx) ∧ Lx 1 RI V ao la ca ts ∧ i64ok wl ∧ i64ok nx

abbrev manO : Man := ⟨[], 1, 2⟩
abbrev manN : Man := ⟨[2], 3, 4⟩
theorem manO_right : manO.Right := by decide
theorem manN_right : manN.Right := by decide
/-- Two variables behind a slice of one number. -/
theorem old_now (W : World) : ∃ V, V = ((W.alloc (.cells #[.int .i64 2] 3)).alloc (.cells #[.slice none 0 0, .int .i64 1, .int .i64 2] 24)).alloc (.cells #[.slice (some ⟨W.heap.size, 0, none⟩) 1 1, .int .i64 3, .int .i64 4] 24) ∧ Mb V (W.heap.size + 1) (.slice none 0 0) (.int .i64 1) (.int .i64 2) ∧ Mb V (W.heap.size + 1 + 1) (.slice (some ⟨W.heap.size, 0, none⟩) 1 1) (.int .i64 3) (.int .i64 4) ∧ Lx 1 RI V (some ⟨W.heap.size, 0, none⟩) 1 1 [2] ∧ Below W.heap.size W V := by
  obtain ⟨A, hA⟩ : ∃ A, A = W.alloc (.cells #[.int .i64 2] 3) := ⟨_, rfl⟩
  have bA : Below W.heap.size W A := by rw [hA]; exact (Below.refl _ _).alloc (Nat.le_refl _) _
  have sA : A.heap.size = W.heap.size + 1 := by rw [hA]; simp
  have lA : Lx 1 RI A (some ⟨W.heap.size, 0, none⟩) 1 1 [2] := lx_cells A W.heap.size [2] _ 1 rfl rfl (by omega) (by decide) (by rw [hA]; exact heap_alloc_new _ _)
  obtain ⟨V, hV, m1, m2, bV⟩ := two_boxes A (.slice none 0 0) (.int .i64 1) (.int .i64 2) (.slice (some ⟨W.heap.size, 0, none⟩) 1 1) (.int .i64 3) (.int .i64 4)
  rw [sA] at m1 m2
  refine ⟨V, by rw [hV, hA], m1, m2, lA.later RI.stable bV, below_trans bA bV⟩

theorem upto_ok : ∀ x ∈ upto 256, i64ok x := by
  intro x hx
  rw [upto_all] at hx
  simp at hx
  obtain ⟨i, hi, rfl⟩ := hx
  unfold i64ok; omega

set_option maxHeartbeats 4000000 in
theorem eleven (wr : World) (m : Nat) (R : RwI wr m (upto 256)) : ∃ V, V = (((wr.alloc (.cells #[.int .i64 5] 3)).alloc (.cells #[.int .i64 5, .int .i64 5] 3)).alloc (.cells #[.int .i64 (-1)] 3)).alloc (.cells #[.slice none 0 0, .int .i64 0, .int .i64 0, .slice none 0 0, .int .i64 0, .int .i64 1, .slice none 0 0, .int .i64 5, .int .i64 5, .slice none 0 0, .int .i64 (-1), .int .i64 5, .slice none 0 0, .int .i64 0, .int .i64 16777216, .slice none 0 0, .int .i64 0, .int .i64 16777215, .slice (some ⟨wr.heap.size, 0, none⟩) 1 1, .int .i64 0, .int .i64 5, .slice (some ⟨wr.heap.size + 1, 0, none⟩) 2 2, .int .i64 0, .int .i64 6, .slice (some ⟨wr.heap.size + 1 + 1, 0, none⟩) 1 1, .int .i64 0, .int .i64 6, .slice (some ⟨m, 0, none⟩) 256 256, .int .i64 0, .int .i64 300, .slice (some ⟨m, 0, none⟩) 255 256, .int .i64 0, .int .i64 300] 24) ∧ (∀ k, k < 11 → At3 V (wr.heap.size + 1 + 1 + 1) k) ∧ Below wr.heap.size wr V := by
  obtain ⟨A, hA⟩ : ∃ A, A = wr.alloc (.cells #[.int .i64 5] 3) := ⟨_, rfl⟩
  obtain ⟨B, hB⟩ : ∃ B, B = A.alloc (.cells #[.int .i64 5, .int .i64 5] 3) := ⟨_, rfl⟩
  obtain ⟨C, hC⟩ : ∃ C, C = B.alloc (.cells #[.int .i64 (-1)] 3) := ⟨_, rfl⟩
  have bA : Below wr.heap.size wr A := by rw [hA]; exact (Below.refl _ _).alloc (Nat.le_refl _) _
  have bB : Below A.heap.size A B := by rw [hB]; exact (Below.refl _ _).alloc (Nat.le_refl _) _
  have bC : Below B.heap.size B C := by rw [hC]; exact (Below.refl _ _).alloc (Nat.le_refl _) _
  have sA : A.heap.size = wr.heap.size + 1 := by rw [hA]; simp
  have sB : B.heap.size = wr.heap.size + 1 + 1 := by rw [hB]; simp [sA]
  have sC : C.heap.size = wr.heap.size + 1 + 1 + 1 := by rw [hC]; simp [sB]
  have l5 : Lx 1 RI A (some ⟨wr.heap.size, 0, none⟩) 1 1 [5] := lx_cells A wr.heap.size [5] _ 1 rfl rfl (by omega) (by decide) (by rw [hA]; exact heap_alloc_new _ _)
  have l55 : Lx 1 RI B (some ⟨A.heap.size, 0, none⟩) 2 2 [5, 5] := lx_cells B A.heap.size [5, 5] _ 2 rfl rfl (by omega) (by decide) (by rw [hB]; exact heap_alloc_new _ _)
  have lm : Lx 1 RI C (some ⟨B.heap.size, 0, none⟩) 1 1 [-1] := lx_cells C B.heap.size [-1] _ 1 rfl rfl (by omega) (by decide) (by rw [hC]; exact heap_alloc_new _ _)
  have lR := R.lx 256 (upto_len 256 (by omega)) (by omega) upto_ok
  rw [← hA, ← hB, ← hC]
  refine ⟨_, rfl, ?_, below_trans bA (below_trans bB (below_trans bC ((Below.refl _ _).alloc (Nat.le_refl _) _)))⟩
  rw [sA] at l55
  rw [sB] at lm
  have bV : ∀ o, Below C.heap.size C (C.alloc o) := fun o => (Below.refl _ _).alloc (Nat.le_refl _) o
  have q5 := fun o => ((l5.later RI.stable bB).later RI.stable bC).later RI.stable (bV o)
  have q55 := fun o => (l55.later RI.stable bC).later RI.stable (bV o)
  have qm := fun o => lm.later RI.stable (bV o)
  have qR := fun o => ((((lR.later RI.stable bA).later RI.stable bB).later RI.stable bC).later RI.stable (bV o))
  intro k hk
  unfold At3
  rw [← sC, cell_of_row _ _ _ _ 24 (0, 0) (heap_alloc_new C _), cell_of_row _ _ _ _ 24 (0, 0) (heap_alloc_new C _), cell_of_row _ _ _ _ 24 (0, 0) (heap_alloc_new C _)]
  match k, hk with
  | 0, _ => exact ⟨_, _, _, [], _, _, rfl, rfl, rfl, Lx.nil _ _ _, by decide, by decide⟩
  | 1, _ => exact ⟨_, _, _, [], _, _, rfl, rfl, rfl, Lx.nil _ _ _, by decide, by decide⟩
  | 2, _ => exact ⟨_, _, _, [], _, _, rfl, rfl, rfl, Lx.nil _ _ _, by decide, by decide⟩
  | 3, _ => exact ⟨_, _, _, [], _, _, rfl, rfl, rfl, Lx.nil _ _ _, by decide, by decide⟩
  | 4, _ => exact ⟨_, _, _, [], _, _, rfl, rfl, rfl, Lx.nil _ _ _, by decide, by decide⟩
  | 5, _ => exact ⟨_, _, _, [], _, _, rfl, rfl, rfl, Lx.nil _ _ _, by decide, by decide⟩
  | 6, _ => exact ⟨_, _, _, _, _, _, rfl, rfl, rfl, q5 _, by decide, by decide⟩
  | 7, _ => exact ⟨_, _, _, _, _, _, rfl, rfl, rfl, q55 _, by decide, by decide⟩
  | 8, _ => exact ⟨_, _, _, _, _, _, rfl, rfl, rfl, qm _, by decide, by decide⟩
  | 9, _ => exact ⟨_, _, _, _, _, _, rfl, rfl, rfl, qR _, by decide, by decide⟩
  | 10, _ => exact ⟨_, _, _, _, _, _, rfl, rfl, rfl, (qR _).take 255 (by omega), by decide, by decide⟩

set_option maxHeartbeats 16000000 in
theorem numbers_walk (w : World) : Calls Tryd.prog 3 #[] w fun e w' => e = .returned (.bool true) ∧ Below w.heap.size w w' := by
  have hmk : (Instr.makeSlice 22 (.int .i64 256) (.int .i64 256)).run Tryd.prog w = .ok (.slice (some ⟨w.heap.size, 0, none⟩) 256 256) (w.alloc (.cells (madeCells (Value.int .i64 0).cells (256 * 1)) 3)) := by
    obtain ⟨i, hi, hz0, hz1, hz2⟩ := info_parts Tryd.info3a
    have h := run_make (P := Tryd.prog) w 22 3 i (.int .i64 0) Tryd.underlying22 hi hz0 .i64 .i64 256 256 (by omega) (by omega) (by rw [hz2]; omega) (by omega)
    rw [hz1] at h
    exact h
  have r0 : RwI (w.alloc (.cells (madeCells (Value.int .i64 0).cells (256 * 1)) 3)) w.heap.size (upto 0) := by
    unfold RwI
    rw [heap_alloc_new]
    have : madeCells (Value.int .i64 0).cells (256 * 1) = ((upto 0).map (Value.int .i64)).toArray := by kernel_rfl
    rw [this]
  have b0 : Below w.heap.size w (w.alloc (.cells (madeCells (Value.int .i64 0).cells (256 * 1)) 3)) := (Below.refl _ _).alloc (Nat.le_refl _) _
  generalize madeCells (Value.int .i64 0).cells (256 * 1) = M0 at *
  go_enter Tryd.func3, Tryd.ntmps3
  go_wp2
  go_loopw [2] (fun i wr => ∃ k : Nat, k ≤ 256 ∧ i = .int .i64 k ∧ RwI wr w.heap.size (upto k) ∧ Below w.heap.size w wr) (fun i _ => 256 - (intOf i).toNat)
  case atStart => exact ⟨0, by omega, rfl, r0, b0⟩
  case round =>
    obtain ⟨k, hk, rfl, R, bwr⟩ := hrel
    by_cases hk2 : k < 256
    · have hl := upto_len k hk
      have c0 := R.cell k (by omega)
      have z0 := R.free k
      have hset := R.set k (k : Int)
      rw [upto_set k hk2] at hset
      have bs := bwr.setCell (p := ⟨w.heap.size, k, none⟩) (Nat.le_refl _) (.int .i64 (k : Int))
      generalize (upto k).getD k 0 = old at c0
      clear hl R hmk r0 b0
      go_wp2
      go_round
      case rel => exact ⟨k + 1, by omega, by go_num, hset, bs⟩
      case measure => simp [intOf]; omega
    · have hkk : k = 256 := by omega
      subst hkk
      clear hmk r0 b0 hk2
      go_wp2
      rw [show (((256 : Nat) : Int)) = 256 from rfl]
      obtain ⟨V, hV, hE, bV⟩ := eleven wr w.heap.size R
      rw [← hV]
      clear hV
      have bwV := bwr.trans (bV.mono bwr.size)
      generalize wr.heap.size + 1 + 1 + 1 = g at *
      clear R bV
      go_loopw [45] (fun i wq => ∃ k : Nat, k ≤ 11 ∧ i = .int .i64 k ∧ Below V.heap.size V wq) (fun i _ => 11 - (intOf i).toNat)
      case atStart => exact ⟨0, by omega, rfl, Below.refl _ _⟩
      case round =>
        obtain ⟨k, hk, rfl, bq⟩ := hrel
        by_cases hk11 : k < 11
        · obtain ⟨ao, la, ca, ts, wl, nx, c0, c1, c2, lx, o1, o2⟩ := hE k hk11
          have c0 := cell_later bq c0
          have c1 := cell_later bq c1
          have c2 := cell_later bq c2
          have hen := fun W (hB : Below wr.heap.size wr W) => encodes_any ao la ca ts wl nx W ((lx.later RI.stable bq).later RI.stable hB) o1 o2
          clear hE lx
          go_wp2_with fail
          with_reducible refine (hen _ ((Below.refl _ _).alloc (Nat.le_refl _) _)).mono ?_
          rintro e W5 ⟨rfl, b5⟩
          go_wp2
          go_round
          case rel => exact ⟨k + 1, by omega, by go_num, below_trans bq (below_trans ((Below.refl _ _).alloc (Nat.le_refl _) _) b5)⟩
          case measure => simp [intOf]; omega
        · have hkk : ¬ k < 11 := hk11
          have hkk2 : k = 11 := by omega
          subst hkk2
          rw [show (((11 : Nat) : Int)) = 11 from rfl]
          have lq : Lx 1 RI (wr.alloc (.cells #[.int .i64 7, .int .i64 2, .int .i64 300] 3)) (some ⟨wr.heap.size, 0, none⟩) 3 3 [7, 2, 300] := lx_cells _ wr.heap.size [7, 2, 300] _ 3 rfl rfl (by omega) (by decide) (heap_alloc_new _ _)
          have bq2 : Below V.heap.size V (wr.alloc (.cells #[.int .i64 7, .int .i64 2, .int .i64 300] 3)) := below_trans bq ((Below.refl _ _).alloc (Nat.le_refl _) _)
          have hre := refenc_any _ 3 3 [7, 2, 300] 8 301 _ lq (by decide)
          have hbl : (Man.enc ⟨[7, 2, 300], 8, 301⟩).length = 16 := by decide +kernel
          generalize Man.enc ⟨[7, 2, 300], 8, 301⟩ = C at hre hbl
          clear hE lq hkk
          go_wp2_with fail
          with_reducible refine hre.mono ?_
          rintro e W6 ⟨co, cl, cc, rfl, t8, b6⟩
          have bV6 := below_trans bq2 b6
          have hcl : cl = 16 := by have := t8.len_eq; omega
          subst hcl
          have hcc := t8.le
          have hct := t8.top
          unfold maxLen at hct
          have hrg := t8.rng
          clear hre bq2
          go_wp2
          go_loopw [6] (fun i wr => ∃ k : Nat, k ≤ 17 ∧ i = .int .i64 k ∧ Below W6.heap.size W6 wr) (fun i _ => 17 - (intOf i).toNat)
          case atStart => exact ⟨0, by omega, rfl, Below.refl _ _⟩
          case round =>
            obtain ⟨j, hj, rfl, hs⟩ := hrel
            by_cases hj2 : j ≤ 16
            · have tr := t8.later hs
              have tk := tr.take j hj2
              have hE1 := fun V (h : Below wr.heap.size wr V) => decodes_any co j cc (C.take j) V (tk.later h) (by omega)
              have hkc : j ≤ cc := by omega
              have r2 : ∀ n ∈ ([] ++ C) ++ C.take j, 0 ≤ n ∧ n ≤ 255 := fun n hn => (List.mem_append.1 hn).elim (fun h => hrg n (by simpa using h)) (fun h => hrg n (List.mem_of_mem_take h))
              go_wp2_with fail
              go_region_held_law (fun w' => Below wr.heap.size wr w') (first | assumption | exact (Below.refl _ _).drew | exact Below.alloc (by assumption) (Below.size (by assumption)) _) (first
                | (go_at_call 10; with_reducible refine (hE1 _ ?_).mono ?_; (first | assumption | exact (Below.refl _ _).drew); rintro e w9 ⟨rfl, b9⟩; have B9 : Below wr.heap.size wr w9 := below_trans (by first | assumption | exact (Below.refl _ _).drew) b9; have B9a : Below wr.heap.size wr (w9.alloc (.cells #[] 5)) := B9.alloc B9.size _)
                | (refine step_app_g (by kernel_rfl) (.tmp 67) (.tmp 68) rfl w9.heap.size (.slice (some ⟨w9.heap.size, 0, none⟩) 0 0) 0 [] (by simp [Act.eval]) (own_empty w9) co 16 cc C (by simp [Act.eval]) (tr.later B9a) (by omega) (by simp) ?_; intro o5 q5 p5 w10 h5 hown5 b10; have B10 : Below wr.heap.size wr w10 := below_trans B9 (Below.trans ((Below.refl w9.heap.size w9).alloc (Nat.le_refl _) _) b10); have h5' : q5 ≤ 1000 := (by have := h5.out; omega); have hz10 : w9.heap.size ≤ w10.heap.size := (by have := b10.size; simp at this; omega))
                | (refine step_app_g (by kernel_rfl) (.tmp 69) (.tmp 72) rfl w9.heap.size (.slice o5 q5 p5) q5 ([] ++ C) (by simp [Act.eval, Act.put]) hown5 co j cc (C.take j) (by simp [Act.eval, Act.put]) (tk.later B10) (by omega) hz10 ?_; intro o6 q6 p6 w11 h6 hown6 b11; have B11 : Below wr.heap.size wr w11 := B10.trans (b11.mono B9.size); have t11 := own_tx hown6 r2; have h6' : q6 ≤ 2000 := (by have := h6.out; omega))
                | (go_at_call 10; with_reducible refine (decodes_any o6 q6 p6 _ w11 t11 (by omega)).mono ?_; rintro e w12 ⟨rfl, b12⟩; have B12 : Below wr.heap.size wr w12 := below_trans B11 b12))
              all_goals
                go_wp2
                go_roundw
                case rel => exact ⟨j + 1, by omega, by go_num, below_trans hs B12⟩
                case measure => simp [intOf]; omega
            · have hno2 : ¬ (j : Int) ≤ (16 : Int) := by omega
              have hjj : j = 17 := by omega
              subst hjj
              rw [show (((17 : Nat) : Int)) = 17 from rfl]
              have bV7 := below_trans bV6 hs
              have bw7 : Below w.heap.size w wr := bwV.trans (bV7.mono bwV.size)
              clear t8 hct hcc hrg hj hj2 hs bV6 bV7 b6 bq
              obtain ⟨V, hV, mo, mn, ln, bV⟩ := old_now wr
              have bwV : Below w.heap.size w V := bw7.trans (bV.mono bw7.size)
              have hRO : (recL manO.enc).length ≤ 49 := rec_len manO (by decide)
              have hRN : (recL manN.enc).length ≤ 49 := rec_len manN (by decide)
              have hreadO := readL_rec manO manO_right
              have hreadN := readL_rec manN manN_right
              obtain ⟨RO, hROe⟩ : ∃ RO, Hid (recL manO.enc = RO) := ⟨_, rfl⟩
              obtain ⟨RN, hRNe⟩ : ∃ RN, Hid (recL manN.enc = RN) := ⟨_, rfl⟩
              rw [hROe.out] at hRO hreadO
              rw [hRNe.out] at hRN hreadN
              have hwO : (⟨16777216, [], 0, false⟩ : Dm).wrote (recL (Man.enc ⟨[], 1, 2⟩)) = (⟨16777216, [fL RO RO.length], 0, false⟩, 0) := by
                have := wrote_calm 16777216 [] none st_none RO (by simp [len0]; omega) (by omega)
                rw [← hROe.out] at this ⊢
                exact this
              go_wp2_with fail
              rw [← hV]
              clear hV bV bw7
              generalize wr.heap.size = g at *
              go_loopw [9] (fun i wr => ∃ k : Nat, k ≤ 7 ∧ i = .int .i64 k ∧ Below V.heap.size V wr) (fun i _ => 7 - (intOf i).toNat)
              case atStart => exact ⟨0, by omega, rfl, Below.refl _ _⟩
              case round =>
                obtain ⟨k, hk, rfl, hq⟩ := hrel
                by_cases hk7 : (k : Int) < 7
                · rcases Nat.eq_zero_or_pos k with rfl | hkp
                  · rw [show (((0 : Nat) : Int)) = 0 from rfl]
                    go_wp2
                    go_loopw [10] (fun i wr => ∃ j : Nat, j ≤ 10 ∧ i = .int .i64 (3 * (j : Int)) ∧ Below V.heap.size V wr) (fun i _ => 30 - (intOf i).toNat)
                    case atStart => exact ⟨0, by omega, rfl, hq⟩
                    case round =>
                      obtain ⟨j, hj, rfl, hs⟩ := hrel
                      by_cases hj2 : j < 10
                      · have hlt : 3 * (j : Int) < 30 := by omega
                        have mo := mo.later hs
                        have mn := mn.later hs
                        have ln := ln.later RI.stable hs
                        go_wp2_with fail
                        with_reducible refine (fresh_x wr).mono ?_
                        rintro e W3 ⟨rfl, d0, b3⟩
                        have x0 := (mo.later b3).c0
                        have x1 := (mo.later b3).c1
                        have x2 := (mo.later b3).c2
                        have y0 := (mn.later b3).c0
                        have y1 := (mn.later b3).c1
                        have y2 := (mn.later b3).c2
                        go_wp2_with fail
                        with_reducible refine (write_x d0 (by simp) none 0 0 [] 1 2 (Lx.nil _ _ _) (by decide) (by decide) manO_right _ 0 hwO).mono ?_
                        rintro e W4 ⟨rfl, d1, q4⟩
                        have b4 := b3.trans (q4.below d0.size)
                        clear x0 x1 x2 y0 y1 y2
                        have x0 := (mo.later b4).c0
                        have x1 := (mo.later b4).c1
                        have x2 := (mo.later b4).c2
                        have y0 := (mn.later b4).c0
                        have y1 := (mn.later b4).c1
                        have y2 := (mn.later b4).c2
                        go_wp2_with fail
                        with_reducible refine (arm_x d1 0 (by omega) (by omega)).mono ?_
                        rintro e W5 ⟨rfl, d2, q5⟩
                        have b5 := b4.trans (q5.below d1.size)
                        rw [show (⟨16777216, [fL RO RO.length], 0, false⟩ : Dm).arm 0 = ⟨16777216, [fL RO RO.length], 0, false⟩ from rfl] at d2
                        clear x0 x1 x2 y0 y1 y2 d1 d0
                        have x0 := (mo.later b5).c0
                        have x1 := (mo.later b5).c1
                        have x2 := (mo.later b5).c2
                        have y0 := (mn.later b5).c0
                        have y1 := (mn.later b5).c1
                        have y2 := (mn.later b5).c2
                        have hw : (⟨16777216, [fL RO RO.length], 0, false⟩ : Dm).wrote (recL (Man.enc ⟨[2], 3, 4⟩)) = (⟨16777216, [fL RN RN.length], 0, false⟩, 0) := by
                          have := wrote_calm 16777216 [fL RO RO.length] _ (st_one RO RO.length) RN (by simp [len0]; omega) (by omega)
                          rw [← hRNe.out] at this ⊢
                          exact this
                        go_wp2_with fail
                        with_reducible refine (write_x d2 (by simp) _ 1 1 [2] 3 4 (ln.later RI.stable b5) (by decide) (by decide) manN_right _ 0 hw).mono ?_
                        rintro e W6 ⟨rfl, d3, q6⟩
                        have b6 := b5.trans (q6.below d2.size)
                        clear x0 x1 x2 y0 y1 y2 hw d2
                        go_wp2_with fail
                        with_reducible refine (crash_x d3 (3 * (j : Int)) (by simp) (by omega) (by omega)).mono ?_
                        rintro e W7 ⟨rfl, d4, q7⟩
                        have b7 := b6.trans (q7.below d3.size)
                        have hst2 := crash_st (st_one RN RN.length) (3 * (j : Int))
                        have hlen2 := st_length hst2
                        have hget := get_st_list hst2
                        unfold Dm.crash at d4
                        clear d3
                        simp only at d4
                        go_wp2_with fail
                        with_reducible refine (readm_some d4 (by simp only; omega) hget (by rw [fL_data]; omega)).mono ?_
                        rintro e W8 ⟨hcase, b8⟩
                        rcases hcase with ⟨hn, _⟩ | ⟨m, v, hm, _, rfl, hv⟩
                        · exact absurd (hn.symm.trans hreadN) (by simp)
                        obtain rfl := Option.some.inj (hreadN.symm.trans hm)
                        obtain ⟨go, gl, gc, rfl, lg, _⟩ := hv
                        have b78 := b7.trans (b8.mono b7.size)
                        have x0 := fun o => cell_later ((Below.refl W8.heap.size W8).alloc (Nat.le_refl _) o) (mo.later b78).c0
                        have x1 := fun o => cell_later ((Below.refl W8.heap.size W8).alloc (Nat.le_refl _) o) (mo.later b78).c1
                        have x2 := fun o => cell_later ((Below.refl W8.heap.size W8).alloc (Nat.le_refl _) o) (mo.later b78).c2
                        have y0' := fun o p => cell_later (below_trans ((Below.refl W8.heap.size W8).alloc (Nat.le_refl _) o) ((Below.refl (W8.alloc o).heap.size (W8.alloc o)).alloc (Nat.le_refl _) p)) (mn.later b78).c0
                        have y1' := fun o p => cell_later (below_trans ((Below.refl W8.heap.size W8).alloc (Nat.le_refl _) o) ((Below.refl (W8.alloc o).heap.size (W8.alloc o)).alloc (Nat.le_refl _) p)) (mn.later b78).c1
                        have y2' := fun o p => cell_later (below_trans ((Below.refl W8.heap.size W8).alloc (Nat.le_refl _) o) ((Below.refl (W8.alloc o).heap.size (W8.alloc o)).alloc (Nat.le_refl _) p)) (mn.later b78).c2
                        obtain ⟨U, hU, ms, mu, bU⟩ := two_boxes W8 (.slice go gl gc) (.int .i64 3) (.int .i64 4) (.slice (some ⟨g, 0, none⟩) 1 1) (.int .i64 3) (.int .i64 4)
                        have s0 := ms.c0
                        have s1 := ms.c1
                        have s2 := ms.c2
                        have u0 := mu.c0
                        have u1 := mu.c1
                        have u2 := mu.c2
                        have bVU := b78.trans (bU.mono b78.size)
                        have lg2 := lg.later RI.stable bU
                        have ln2 := ln.later RI.stable bVU
                        have hgl := lg2.len_eq
                        rw [hU] at s0 s1 s2 u0 u1 u2
                        clear hm lg b7 b8 d4 hget hlen2 hst2 ms mu b5 b6
                        go_wp2_with fail
                        rw [← hU]
                        clear hU x0 x1 x2 y0' y1' y2' s0 s1 s2 u0 u1 u2
                        have hsm := same_man go (some ⟨g, 0, none⟩) gl gc 1 1 [2] [2] 3 4 3 4 U lg2 ln2 (by simp at hgl; omega) (by omega)
                        rw [show (decide (([2] : List Int) = [2]) && decide ((3 : Int) = 3) && decide ((4 : Int) = 4)) = true by decide] at hsm
                        with_reducible refine hsm.mono ?_
                        rintro e U1 ⟨rfl, b9⟩
                        have bVU1 := bVU.trans (b9.mono bVU.size)
                        clear hsm
                        go_wp2
                        go_roundw
                        case rel => exact ⟨j + 1, by omega, by go_num, below_trans hs bVU1⟩
                        case measure => simp [intOf]; omega
                      · have hno : ¬ 3 * (j : Int) < 30 := by omega
                        go_wp2
                        go_roundw
                        case rel => exact ⟨1, by omega, by go_num, hs⟩
                        case measure => simp [intOf]
                  · have hk0 : ¬ (k : Int) = 0 := by omega
                    go_wp2
                    go_loopw [10] (fun i wr => ∃ j : Nat, j ≤ 10 ∧ i = .int .i64 (3 * (j : Int)) ∧ Below V.heap.size V wr) (fun i _ => 30 - (intOf i).toNat)
                    case atStart => exact ⟨0, by omega, rfl, hq⟩
                    case round =>
                      obtain ⟨j, hj, rfl, hs⟩ := hrel
                      by_cases hj2 : j < 10
                      · have hlt : 3 * (j : Int) < 30 := by omega
                        have mo := mo.later hs
                        have mn := mn.later hs
                        have ln := ln.later RI.stable hs
                        go_wp2_with fail
                        with_reducible refine (fresh_x wr).mono ?_
                        rintro e W3 ⟨rfl, d0, b3⟩
                        have x0 := (mo.later b3).c0
                        have x1 := (mo.later b3).c1
                        have x2 := (mo.later b3).c2
                        have y0 := (mn.later b3).c0
                        have y1 := (mn.later b3).c1
                        have y2 := (mn.later b3).c2
                        go_wp2_with fail
                        with_reducible refine (write_x d0 (by simp) none 0 0 [] 1 2 (Lx.nil _ _ _) (by decide) (by decide) manO_right _ 0 hwO).mono ?_
                        rintro e W4 ⟨rfl, d1, q4⟩
                        have b4 := b3.trans (q4.below d0.size)
                        clear x0 x1 x2 y0 y1 y2
                        have x0 := (mo.later b4).c0
                        have x1 := (mo.later b4).c1
                        have x2 := (mo.later b4).c2
                        have y0 := (mn.later b4).c0
                        have y1 := (mn.later b4).c1
                        have y2 := (mn.later b4).c2
                        go_wp2_with fail
                        with_reducible refine (arm_x d1 (k : Int) (by omega) (by omega)).mono ?_
                        rintro e W5 ⟨rfl, d2, q5⟩
                        have b5 := b4.trans (q5.below d1.size)
                        rw [show (⟨16777216, [fL RO RO.length], 0, false⟩ : Dm).arm (k : Int) = ⟨16777216, [fL RO RO.length], (k : Int), false⟩ from rfl] at d2
                        clear x0 x1 x2 y0 y1 y2 d1 d0
                        have x0 := (mo.later b5).c0
                        have x1 := (mo.later b5).c1
                        have x2 := (mo.later b5).c2
                        have y0 := (mn.later b5).c0
                        have y1 := (mn.later b5).c1
                        have y2 := (mn.later b5).c2
                        rcases wrote_any (lim := 16777216) (k := (k : Int)) (b := RN) (st_one RO RO.length) (by omega) (by simp [len0]; omega) (by omega) with ⟨z, hw, _, hkz⟩ | ⟨l', hst, hw, hk1, hk4⟩
                        · rw [← hRNe.out] at hw
                          have hw : (⟨16777216, [fL RO RO.length], (k : Int), false⟩ : Dm).wrote (recL (Man.enc ⟨[2], 3, 4⟩)) = (⟨16777216, [fL RN RN.length], z, false⟩, 0) := by rw [hw, hRNe.out]
                          have hk5 : (4 : Int) < (k : Int) := hkz.resolve_left hk0
                          go_wp2_with fail
                          with_reducible refine (write_x d2 (by simp) _ 1 1 [2] 3 4 (ln.later RI.stable b5) (by decide) (by decide) manN_right _ 0 hw).mono ?_
                          rintro e W6 ⟨rfl, d3, q6⟩
                          have b6 := b5.trans (q6.below d2.size)
                          clear x0 x1 x2 y0 y1 y2 hw d2
                          go_wp2_with fail
                          with_reducible refine (crash_x d3 (3 * (j : Int)) (by simp) (by omega) (by omega)).mono ?_
                          rintro e W7 ⟨rfl, d4, q7⟩
                          have b7 := b6.trans (q7.below d3.size)
                          have hst2 := crash_st (st_one RN RN.length) (3 * (j : Int))
                          have hlen2 := st_length hst2
                          have hget := get_st_list hst2
                          unfold Dm.crash at d4
                          clear d3
                          simp only at d4
                          go_wp2_with fail
                          with_reducible refine (readm_some d4 (by simp only; omega) hget (by rw [fL_data]; omega)).mono ?_
                          rintro e W8 ⟨hcase, b8⟩
                          rcases hcase with ⟨hn, _⟩ | ⟨m, v, hm, _, rfl, hv⟩
                          · exact absurd (hn.symm.trans hreadN) (by simp)
                          obtain rfl := Option.some.inj (hreadN.symm.trans hm)
                          obtain ⟨go, gl, gc, rfl, lg, _⟩ := hv
                          have b78 := b7.trans (b8.mono b7.size)
                          have x0 := fun o => cell_later ((Below.refl W8.heap.size W8).alloc (Nat.le_refl _) o) (mo.later b78).c0
                          have x1 := fun o => cell_later ((Below.refl W8.heap.size W8).alloc (Nat.le_refl _) o) (mo.later b78).c1
                          have x2 := fun o => cell_later ((Below.refl W8.heap.size W8).alloc (Nat.le_refl _) o) (mo.later b78).c2
                          have y0' := fun o p => cell_later (below_trans ((Below.refl W8.heap.size W8).alloc (Nat.le_refl _) o) ((Below.refl (W8.alloc o).heap.size (W8.alloc o)).alloc (Nat.le_refl _) p)) (mn.later b78).c0
                          have y1' := fun o p => cell_later (below_trans ((Below.refl W8.heap.size W8).alloc (Nat.le_refl _) o) ((Below.refl (W8.alloc o).heap.size (W8.alloc o)).alloc (Nat.le_refl _) p)) (mn.later b78).c1
                          have y2' := fun o p => cell_later (below_trans ((Below.refl W8.heap.size W8).alloc (Nat.le_refl _) o) ((Below.refl (W8.alloc o).heap.size (W8.alloc o)).alloc (Nat.le_refl _) p)) (mn.later b78).c2
                          obtain ⟨U, hU, ms, mu, bU⟩ := two_boxes W8 (.slice go gl gc) (.int .i64 3) (.int .i64 4) (.slice (some ⟨g, 0, none⟩) 1 1) (.int .i64 3) (.int .i64 4)
                          have s0 := ms.c0
                          have s1 := ms.c1
                          have s2 := ms.c2
                          have u0 := mu.c0
                          have u1 := mu.c1
                          have u2 := mu.c2
                          have bVU := b78.trans (bU.mono b78.size)
                          have lg2 := lg.later RI.stable bU
                          have ln2 := ln.later RI.stable bVU
                          have hgl := lg2.len_eq
                          rw [hU] at s0 s1 s2 u0 u1 u2
                          clear hm lg b7 b8 d4 hget hlen2 hst2 ms mu b5 b6
                          go_wp2_with fail
                          rw [← hU]
                          clear hU x0 x1 x2 y0' y1' y2' s0 s1 s2 u0 u1 u2
                          have hsm := same_man go (some ⟨g, 0, none⟩) gl gc 1 1 [2] [2] 3 4 3 4 U lg2 ln2 (by simp at hgl; omega) (by omega)
                          rw [show (decide (([2] : List Int) = [2]) && decide ((3 : Int) = 3) && decide ((4 : Int) = 4)) = true by decide] at hsm
                          with_reducible refine hsm.mono ?_
                          rintro e U1 ⟨rfl, b9⟩
                          have bVU1 := bVU.trans (b9.mono bVU.size)
                          clear hsm
                          go_wp2
                          go_roundw
                          case rel => exact ⟨j + 1, by omega, by go_num, below_trans hs bVU1⟩
                          case measure => simp [intOf]; omega
                        · rw [← hRNe.out] at hw
                          have hw : (⟨16777216, [fL RO RO.length], (k : Int), false⟩ : Dm).wrote (recL (Man.enc ⟨[2], 3, 4⟩)) = (⟨16777216, l', 0, true⟩, 13) := hw
                          have hk5 : ¬ (4 : Int) < (k : Int) := by omega
                          go_wp2_with fail
                          with_reducible refine (write_x d2 (by simp) _ 1 1 [2] 3 4 (ln.later RI.stable b5) (by decide) (by decide) manN_right _ 13 hw).mono ?_
                          rintro e W6 ⟨rfl, d3, q6⟩
                          have b6 := b5.trans (q6.below d2.size)
                          clear x0 x1 x2 y0 y1 y2 hw d2
                          go_wp2_with fail
                          · rename_i hz
                            rcases hz with hz | hz
                            · have := beq_iff_eq.1 hz; omega
                            · omega
                          with_reducible refine (crash_x d3 (3 * (j : Int)) (by have := st_length hst; simp only; omega) (by omega) (by omega)).mono ?_
                          rintro e W7 ⟨rfl, d4, q7⟩
                          have b7 := b6.trans (q7.below d3.size)
                          have hst2 := crash_st hst (3 * (j : Int))
                          have hlen2 := st_length hst2
                          have hget := get_st_list hst2
                          unfold Dm.crash at d4
                          clear d3
                          simp only at d4
                          go_wp2_with fail
                          with_reducible refine (readm_some d4 (by simp only; omega) hget (by rw [fL_data]; omega)).mono ?_
                          rintro e W8 ⟨hcase, b8⟩
                          rcases hcase with ⟨hn, _⟩ | ⟨m, v, hm, _, rfl, hv⟩
                          · exact absurd (hn.symm.trans hreadO) (by simp)
                          obtain rfl := Option.some.inj (hreadO.symm.trans hm)
                          obtain ⟨go, gl, gc, rfl, lg, _⟩ := hv
                          have b78 := b7.trans (b8.mono b7.size)
                          have x0 := fun o => cell_later ((Below.refl W8.heap.size W8).alloc (Nat.le_refl _) o) (mo.later b78).c0
                          have x1 := fun o => cell_later ((Below.refl W8.heap.size W8).alloc (Nat.le_refl _) o) (mo.later b78).c1
                          have x2 := fun o => cell_later ((Below.refl W8.heap.size W8).alloc (Nat.le_refl _) o) (mo.later b78).c2
                          obtain ⟨U, hU, ms, mu, bU⟩ := two_boxes W8 (.slice go gl gc) (.int .i64 1) (.int .i64 2) (.slice none 0 0) (.int .i64 1) (.int .i64 2)
                          have s0 := ms.c0
                          have s1 := ms.c1
                          have s2 := ms.c2
                          have u0 := mu.c0
                          have u1 := mu.c1
                          have u2 := mu.c2
                          have bVU := b78.trans (bU.mono b78.size)
                          have lg2 := lg.later RI.stable bU
                          have hgl := lg2.len_eq
                          rw [hU] at s0 s1 s2 u0 u1 u2
                          clear hm lg b7 b8 d4 hget hlen2 hst2 ms mu b5 b6
                          go_wp2_with fail
                          rw [← hU]
                          clear hU x0 x1 x2 s0 s1 s2 u0 u1 u2
                          have hsm := same_man go none gl gc 0 0 [] [] 1 2 1 2 U lg2 (Lx.nil _ _ _) (by simp at hgl; omega) (by omega)
                          rw [show (decide (([] : List Int) = []) && decide ((1 : Int) = 1) && decide ((2 : Int) = 2)) = true by decide] at hsm
                          with_reducible refine hsm.mono ?_
                          rintro e U1 ⟨rfl, b9⟩
                          have bVU1 := bVU.trans (b9.mono bVU.size)
                          clear hsm
                          go_wp2
                          go_roundw
                          case rel => exact ⟨j + 1, by omega, by go_num, below_trans hs bVU1⟩
                          case measure => simp [intOf]; omega
                      · have hno : ¬ 3 * (j : Int) < 30 := by omega
                        go_wp2
                        go_roundw
                        case rel => exact ⟨k + 1, by omega, by go_num, hs⟩
                        case measure => simp [intOf]; omega
                · have hno : ¬ (k : Int) < 7 := by omega
                  obtain rfl : k = 7 := by omega
                  have ln := ln.later RI.stable hq
                  have mn := mn.later hq
                  have y0 := mn.c0
                  have y1 := mn.c1
                  have y2 := mn.c2
                  go_wp2_with fail
                  with_reducible refine (write_nil (some ⟨g, 0, none⟩) 1 1 [2] 3 4 wr ln (by decide) (by decide)).mono ?_
                  rintro e W1 ⟨rfl, b1⟩
                  go_wp2_with fail
                  with_reducible refine (fresh_x W1).mono ?_
                  rintro e W2 ⟨rfl, _, b2⟩
                  go_wp2_with fail
                  with_reducible refine (write_no _ none 0 0 [] 0 0 W2 (Lx.nil _ _ _) (by decide) (by decide) (by decide)).mono ?_
                  rintro e W3 ⟨rfl, b3⟩
                  go_wp2_with fail
                  with_reducible refine (known_any W3).mono ?_
                  rintro e W4 ⟨rfl, b4⟩
                  go_wp2
                  go_ret
                  exact ⟨rfl, bwV.trans ((below_trans hq (below_trans b1 (below_trans b2 (below_trans b3 b4)))).mono bwV.size)⟩
end Go.Proofs.YtgleblfkcdkaeaaDoor
