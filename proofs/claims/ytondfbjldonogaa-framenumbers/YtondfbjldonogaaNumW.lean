/- The walk of FrameNumbers. -/
import Derived.Test.YtondfbjldonogaaNumLaw
namespace Go.Proofs.Ytondfbjldonogaa
open Go.RowKit Go.Sort

def rowsN : List (List Int) := [[111, 110, 101], [], [116, 104, 114, 101, 101], zerosN 300]
theorem rowsN_small : ∀ x ∈ rowsN, x.length ≤ 1048576 := by
  intro x hx
  simp [rowsN] at hx
  rcases hx with rfl | rfl | rfl | rfl <;> simp [zerosN_len]
theorem rowsN_len : (rowL rowsN).length = 332 := by simp [rowL, rowsN, length_recL, zerosN_len]
def entsN : List Ent := [⟨[97], [120, 121, 122], false⟩, ⟨[98], [], true⟩, ⟨zerosN 255, [], false⟩]
theorem entsN_may : mayL entsN = true := by
  rw [mayL_iff]
  refine ⟨by simp [entsN], fun e he => ?_⟩
  simp [entsN] at he
  rcases he with rfl | rfl | rfl <;> simp [fitsE, zerosN_len]
theorem entsN_len : (batchL entsN).length ≤ 1000 := by decide +kernel

theorem row_n (V : World) (ao : Option Addr) (h : Lx 1 RB V ao 4 4 [[111, 110, 101], [], [116, 104, 114, 101, 101], zerosN 300]) :
    Calls Try.prog 8 #[.slice ao 4 4] V fun e w' => ∃ bo lb cb, e = .returned (.slice bo lb cb) ∧ Tx w' bo lb cb (rowL rowsN) ∧ Below V.heap.size V w' := row_any ao 4 4 rowsN V h rowsN_small (by rw [rowsN_len]; omega) (by omega)
theorem bat_n (V : World) (ao : Option Addr) (h : Lx 3 RE V ao 3 3 [⟨[97], [120, 121, 122], false⟩, ⟨[98], [], true⟩, ⟨zerosN 255, [], false⟩]) :
    Calls Try.prog 10 #[.slice ao 3 3] V fun e w' => ∃ bo lb cb, e = .returned (.slice bo lb cb) ∧ Tx w' bo lb cb (batchL entsN) ∧ Below V.heap.size V w' := (rbatch_any ao 3 3 entsN V h entsN_may).mono fun _ _ ⟨bo, lb, cb, he, g, b⟩ => ⟨bo, lb, cb, he, g.tx, b⟩

theorem put_len {w : World} {o : Option Addr} {n p : Nat} (t : Tx w o n p ([97] ++ recL (zerosN 1048576))) : n = 1048583 := by
  have := t.len_eq
  rw [List.length_append, length_recL, zerosN_len] at this
  simp only [List.length_singleton] at this
  omega
theorem ents_bad (V : World) : Calls Try.prog 11 #[.slice (some ⟨V.heap.size, 0, none⟩) 3 3] (V.alloc (.cells #[.int .u8 255, .int .u8 255, .int .u8 0] 5)) fun e w' => e = .returned (.bool true) ∧ Below V.heap.size V w' := by
  have b1 : Below V.heap.size V (V.alloc (.cells #[.int .u8 255, .int .u8 255, .int .u8 0] 5)) := (Below.refl _ _).alloc (Nat.le_refl _) _
  refine (entries_any _ 3 3 [255, 255, 0] _ (tx_mark V #[.int .u8 255, .int .u8 255, .int .u8 0] (0, 0) [255, 255, 0] 3 rfl rfl (by omega) (by simp)) (by omega)).mono ?_
  rintro e w' ⟨rfl, b⟩
  exact ⟨rfl, b1.trans (b.mono b1.size)⟩
theorem own_tx {B : Nat} {w : World} {o : Option Addr} {n p : Nat} {zs : List Int} (h : w.ownsRow B 5 1 (.slice o n p) n (zs.map (Value.int .u8))) (hr : ∀ n ∈ zs, 0 ≤ n ∧ n ≤ 255) : Tx w o n p zs := by
  obtain ⟨ao, cap, e, t⟩ := Tx.own h hr
  cases e
  exact t

set_option maxHeartbeats 8000000 in
set_option maxRecDepth 100000 in
theorem numbers_walk (w : World) : Calls Try.prog 3 #[] w fun e w' => e = .returned (.bool true) ∧ Below w.heap.size w w' := by
  have hX := rowsN_len
  have hrow := row_n
  generalize rowL rowsN = X at hX hrow
  have hC := entsN_len
  have hbat := bat_n
  generalize batchL entsN = C at hC hbat
  go_enter Try.func3, Try.ntmps3
  go_wp2_with (first
    | (with_reducible show wpList _ _ _ (⟨some 12, _, _, _, _, _⟩ :: _) _ _; refine wpList_convs rfl _ rfl w w.heap.size _ [111, 110, 101] 3 rfl rfl rfl rfl rfl (by omega) (by simp) ?_; intro W1 t1 b1)
    | (with_reducible show wpList _ _ _ (⟨some 14, _, _, _, _, _⟩ :: _) _ _; refine wpList_convs rfl _ rfl W1 W1.heap.size _ [116, 104, 114, 101, 101] 5 rfl rfl rfl rfl rfl (by omega) (by simp) ?_; intro W2 t2 b2; have B2 := below_tr b1 b2)
    | (with_reducible show wpList _ _ _ (⟨some 15, _, _, _, _, _⟩ :: _) _ _; refine wpList_zeros W2 rfl _ _ rfl .i64 .i64 300 300 300 rfl rfl rfl rfl (by omega) ?_; intro W3 t3 b3; have B3 := below_tr B2 b3; have q := lx_four W3 (((t1.later b2).later b3).at [] (by simp)) ((Tx.nil W3).at [] (by simp)) ((t2.later b3).at [] (by simp)) (t3.at [] (by simp)); have hr := hrow _ _ q.1; have B4 := below_tr B3 q.2)
    | (go_at_call 8; with_reducible refine hr.mono ?_; rintro e w5 ⟨xo, xl, xc, rfl, t5, b6⟩; have B6 := below_tr B4 b6))
  clear q hr t1 t2 t3
  have hxl := t5.len_eq
  have hxc := t5.le
  have hxt := t5.top
  unfold maxLen at hxt
  have hx9 : xl = 332 := by omega
  go_loopw [2] (fun i wr => ∃ k : Nat, k ≤ xl + 1 ∧ i = .int .i64 k ∧ Below w5.heap.size w5 wr) (fun i _ => xl + 1 - (intOf i).toNat)
  case atStart => exact ⟨0, by omega, rfl, Below.refl _ _⟩
  case round =>
    obtain ⟨k, hk, rfl, hb⟩ := hrel
    by_cases hk2 : k ≤ xl
    · have hop := all_any xo k xc (X.take k) wr ((t5.take k hk2).later hb) (by omega)
      have hkc : k ≤ xc := by omega
      have hk3 : k ≤ 332 := by omega
      clear hx9
      go_wp2_with (go_at_call 9; with_reducible refine hop.mono ?_; rintro e w6 ⟨rfl, b7⟩)
      go_roundw
      case rel => exact ⟨k + 1, by omega, by go_num, below_tr hb b7⟩
      case measure => simp [intOf]; omega
    · have hno : ¬ (k : Int) ≤ (xl : Int) := by omega
      have B7 := below_tr B6 hb
      clear hx9 hk2 hk t5 hxl hxc hxt
      go_wp2_with (first
        | (with_reducible show wpList _ _ _ (⟨some 30, _, _, _, _, _⟩ :: _) _ _; refine wpList_convs rfl _ rfl wr wr.heap.size _ [97] 1 rfl rfl rfl rfl rfl (by omega) (by simp) ?_; intro V1 t1 b1; have D1 := below_tr B7 b1)
        | (with_reducible show wpList _ _ _ (⟨some 32, _, _, _, _, _⟩ :: _) _ _; refine wpList_convs rfl _ rfl V1 V1.heap.size _ [120, 121, 122] 3 rfl rfl rfl rfl rfl (by omega) (by simp) ?_; intro V2 t2 b2; have D2 := below_tr D1 b2)
        | (with_reducible show wpList _ _ _ (⟨some 35, _, _, _, _, _⟩ :: _) _ _; refine wpList_convs rfl _ rfl V2 V2.heap.size _ [98] 1 rfl rfl rfl rfl rfl (by omega) (by simp) ?_; intro V3 t3 b3; have D3 := below_tr D2 b3)
        | (with_reducible show wpList _ _ _ (⟨some 37, _, _, _, _, _⟩ :: _) _ _; refine wpList_zeros V3 rfl _ _ rfl .i64 .i64 255 255 255 rfl rfl rfl rfl (by omega) ?_; intro V4 t4 b4; have D4 := below_tr D3 b4; have q := lx_ent_three V4 (e := ⟨[97], [120, 121, 122], false⟩) (e2 := ⟨[98], [], true⟩) (e3 := ⟨zerosN 255, [], false⟩) (((t1.later b2).later (below_tr b3 b4)).at [] (by simp)) ((t2.later (below_tr b3 b4)).at [] (by simp)) ((t3.later b4).at [] (by simp)) ((Tx.nil V4).at [] (by simp)) (t4.at [] (by simp)) ((Tx.nil V4).at [] (by simp)) false true false rfl rfl rfl; have hr := hbat _ _ q.1; have D5 := below_tr D4 q.2)
        | (go_at_call 10; with_reducible refine hr.mono ?_; rintro e w8 ⟨co, cl, cc, rfl, t8, b8⟩; have D8 := below_tr D5 b8))
      clear q hr t1 t2 t3 t4
      have hcl := t8.len_eq
      have hcc := t8.le
      have hct := t8.top
      unfold maxLen at hct
      have hc9 : cl ≤ 1000 := by omega
      clear hcl
      have hrg := t8.rng
      go_loopw [4] (fun i wr => ∃ k : Nat, k ≤ cl + 1 ∧ i = .int .i64 k ∧ Below w8.heap.size w8 wr) (fun i _ => cl + 1 - (intOf i).toNat)
      case atStart => exact ⟨0, by omega, rfl, Below.refl _ _⟩
      case round =>
        obtain ⟨j, hj, rfl, hs⟩ := hrel
        by_cases hj2 : j ≤ cl
        · have tr := t8.later hs
          have tk := tr.take j hj2
          have hE1 := fun V (h : Below wr.heap.size wr V) => entries_any co j cc (C.take j) V (tk.later h) (by omega)
          have hkc : j ≤ cc := by omega
          have r2 : ∀ n ∈ ([] ++ C) ++ C.take j, 0 ≤ n ∧ n ≤ 255 := fun n hn => (List.mem_append.1 hn).elim (fun h => hrg n (by simpa using h)) (fun h => hrg n (List.mem_of_mem_take h))
          go_wp2_with fail
          go_region_held_law (fun w' => Below wr.heap.size wr w') (first | assumption | exact (Below.refl _ _).drew | exact Below.alloc (by assumption) (Below.size (by assumption)) _) (first
            | (go_at_call 11; with_reducible refine (hE1 _ ?_).mono ?_; (first | assumption | exact (Below.refl _ _).drew); rintro e w9 ⟨rfl, b9⟩; have B9 : Below wr.heap.size wr w9 := below_tr (by first | assumption | exact (Below.refl _ _).drew) b9; have B9a : Below wr.heap.size wr (w9.alloc (.cells #[] 5)) := B9.alloc B9.size _)
            | (refine step_app_g (by kernel_rfl) (.tmp 53) (.tmp 54) rfl w9.heap.size (.slice (some ⟨w9.heap.size, 0, none⟩) 0 0) 0 [] (by simp [Act.eval]) (own_empty w9) co cl cc C (by simp [Act.eval]) (tr.later B9a) (by omega) (by simp) ?_; intro o5 q5 p5 w10 h5 hown5 b10; have B10 : Below wr.heap.size wr w10 := below_tr B9 (Below.trans ((Below.refl w9.heap.size w9).alloc (Nat.le_refl _) _) b10); have h5' : q5 ≤ 1000 := (by have := h5.out; omega); have hz10 : w9.heap.size ≤ w10.heap.size := (by have := b10.size; simp at this; omega))
            | (refine step_app_g (by kernel_rfl) (.tmp 55) (.tmp 58) rfl w9.heap.size (.slice o5 q5 p5) q5 ([] ++ C) (by simp [Act.eval, Act.put]) hown5 co j cc (C.take j) (by simp [Act.eval, Act.put]) (tk.later B10) (by omega) hz10 ?_; intro o6 q6 p6 w11 h6 hown6 b11; have B11 : Below wr.heap.size wr w11 := B10.trans (b11.mono B9.size); have t11 := own_tx hown6 r2; have h6' : q6 ≤ 2000 := (by have := h6.out; omega))
            | (go_at_call 11; with_reducible refine (entries_any o6 q6 p6 _ w11 t11 (by omega)).mono ?_; rintro e w12 ⟨rfl, b12⟩; have B12 : Below wr.heap.size wr w12 := below_tr B11 b12))
          all_goals
            go_wp2
            go_roundw
            case rel => exact ⟨j + 1, by omega, by go_num, below_tr hs B12⟩
            case measure => simp [intOf]; omega
        · have hno2 : ¬ (j : Int) ≤ (cl : Int) := by omega
          have E0 := below_tr D8 hs
          have l1 := lx_ent_one wr (k := .slice none 0 0) (v := .slice none 0 0) (e := ⟨[], [], false⟩) ((Tx.nil wr).at [] (by simp)) ((Tx.nil wr).at [] (by simp)) false rfl
          have hb1 := batch_any _ _ _ _ _ l1.1
          have E1 := below_tr E0 l1.2
          clear t8 hct hcc hrg hj hj2 l1
          go_wp2_with (first
            | (go_at_call 12; with_reducible refine hb1.mono ?_; rintro e v1 ⟨rfl, d1⟩; have E2 := below_tr E1 d1)
            | (with_reducible show wpList _ _ _ (⟨some 68, _, _, _, _, _⟩ :: _) _ _; refine wpList_unguard (by kernel_rfl) ?_; refine wpList_zeros v1 rfl _ _ rfl .i64 .i64 256 256 256 rfl rfl rfl rfl (by omega) ?_; intro v2 t2 d2; have E3 := below_tr E2 d2; have l2 := lx_ent_one v2 (e := ⟨zerosN 256, [], false⟩) (t2.at [] (by simp)) ((Tx.nil v2).at [] (by simp)) false rfl; have hb2 := batch_any _ _ _ _ _ l2.1; have E4 := below_tr E3 l2.2)
            | (go_at_call 12; with_reducible refine hb2.mono ?_; rintro e v3 ⟨rfl, d3⟩; have E5 := below_tr E4 d3)
            | (with_reducible show wpList _ _ _ (⟨some 76, _, _, _, _, _⟩ :: _) _ _; refine wpList_unguard (by kernel_rfl) ?_; refine wpList_convs rfl _ rfl v3 v3.heap.size _ [97] 1 rfl rfl rfl rfl rfl (by omega) (by simp) ?_; intro v4 t4 d4)
            | (with_reducible show wpList _ _ _ (⟨some 77, _, _, _, _, _⟩ :: _) _ _; refine wpList_unguard (by kernel_rfl) ?_; refine wpList_zeros v4 rfl _ _ rfl .i64 .i64 4096 4096 4096 rfl rfl rfl rfl (by omega) ?_; intro v5 t5 d5; have E6 := below_tr (below_tr E5 d4) d5; have l3 := lx_ent_one v5 (e := ⟨[97], zerosN 4096, false⟩) ((t4.later d5).at [] (by simp)) (t5.at [] (by simp)) false rfl; have hb3 := batch_any _ _ _ _ _ l3.1; have E7 := below_tr E6 l3.2)
            | (go_at_call 12; with_reducible refine hb3.mono ?_; rintro e v6 ⟨rfl, d6⟩; have E8 := below_tr E7 d6)
            | (with_reducible show wpList _ _ _ (⟨some 85, _, _, _, _, _⟩ :: _) _ _; refine wpList_unguard (by kernel_rfl) ?_; refine wpList_convs rfl _ rfl v6 v6.heap.size _ [97] 1 rfl rfl rfl rfl rfl (by omega) (by simp) ?_; intro v7 t7 d7)
            | (with_reducible show wpList _ _ _ (⟨some 86, _, _, _, _, _⟩ :: _) _ _; refine wpList_unguard (by kernel_rfl) ?_; refine wpList_zeros v7 rfl _ _ rfl .i64 .i64 4095 4095 4095 rfl rfl rfl rfl (by omega) ?_; intro v8 t8 d8; have E9 := below_tr (below_tr E8 d7) d8; have l4 := lx_ent_one v8 (e := ⟨[97], zerosN 4095, false⟩) ((t7.later d8).at [] (by simp)) (t8.at [] (by simp)) false rfl; have hb4 := batch_any _ _ _ _ _ l4.1; have E10 := below_tr E9 l4.2)
            | (go_at_call 12; with_reducible refine hb4.mono ?_; rintro e v9 ⟨rfl, d9⟩; have E11 := below_tr E10 d9)
            | (with_reducible show wpList _ _ _ (⟨some 94, _, _, _, _, _⟩ :: _) _ _; refine wpList_unguard (by kernel_rfl) ?_; refine wpList_convs rfl _ rfl v9 v9.heap.size _ [97] 1 rfl rfl rfl rfl rfl (by omega) (by simp) ?_; intro va ta da)
            | (with_reducible show wpList _ _ _ (⟨some 95, _, _, _, _, _⟩ :: _) _ _; refine wpList_unguard (by kernel_rfl) ?_; refine wpList_zeros va rfl _ _ rfl .i64 .i64 4096 4096 4096 rfl rfl rfl rfl (by omega) ?_; intro vb tb db; have E12 := below_tr (below_tr E11 da) db; have l5 := lx_ent_one vb (e := ⟨[97], zerosN 4096, true⟩) ((ta.later db).at [] (by simp)) (tb.at [] (by simp)) true rfl; have hb5 := batch_any _ _ _ _ _ l5.1; have E13 := below_tr E12 l5.2)
            | (go_at_call 12; with_reducible refine hb5.mono ?_; rintro e vc ⟨rfl, dc⟩; have E14 := below_tr E13 dc)
            | (with_reducible show wpList _ _ _ (⟨some 101, _, _, _, _, _⟩ :: _) _ _; refine wpList_make_ents vc rfl _ _ rfl .i64 .i64 8192 8192 8192 rfl rfl rfl rfl (by omega) ?_; intro vd er dd; have E15 := below_tr E14 dd))
          have hg1 : w.heap.size ≤ vc.heap.size := E14.size
          clear l2 l3 l4 l5 hb1 hb2 hb3 hb4 hb5 t2 t4 t5 t7 t8 ta tb
          generalize vc.heap.size = g at er hg1 dd
          go_loopw [6] (fun i wr => ∃ k : Nat, k ≤ 8192 ∧ i = .int .i64 k ∧ Er wr g 8192 k ∧ Below w.heap.size w wr) (fun i _ => 8192 - (intOf i).toNat)
          case atStart => exact ⟨0, by omega, rfl, er, E15⟩
          case round =>
            obtain ⟨m, hm, rfl, er, br⟩ := hrel
            by_cases hm2 : m < 8192
            · have hne : wr.heap.size ≠ g := by have := er.lt (by omega); omega
              have hms : (m : Int) < 8192 := by omega
              go_wp2_with (first
                | (with_reducible show wpList _ _ _ (⟨some 111, _, _, _, _, _⟩ :: _) _ _; refine wpList_convs rfl _ rfl wr wr.heap.size _ [107] 1 rfl rfl rfl rfl rfl (by omega) (by simp) ?_; intro x1 t1 d1; have er1 := er.later d1; have F1 := br.trans (d1.mono br.size); have hF1 := F1.size)
                | (with_reducible show wpList _ _ _ (⟨none, _, _, _, _, _⟩ :: _) _ _; refine wpList_ent rfl _ _ rfl g 8192 m wr.heap.size rfl rfl er1 hm2 hne t1 w.heap.size hg1 hF1 ?_; intro x2 er2 d2; have F2 := F1.trans d2))
              go_roundw
              case rel => exact ⟨m + 1, by omega, by go_num, er2, F2⟩
              case measure => simp [intOf]; omega
            · have hms : ¬ (m : Int) < 8192 := by omega
              obtain rfl : m = 8192 := by omega
              clear hm2 hm
              go_wp2_with (first
                | (with_reducible show wpList _ _ _ (⟨some 115, _, _, _, _, _⟩ :: _) _ _; refine wpList_zeros wr rfl _ _ rfl .i64 .i64 1048577 1048577 1048577 rfl rfl rfl rfl (by omega) ?_; intro y1 t1 d1; have F1 := br.trans (d1.mono br.size); have er1 := er.later d1)
                | (go_at_call 13; with_reducible refine (fput_long none _ 0 0 1048577 _ y1 (by omega)).mono ?_; rintro e v ⟨rfl, rfl⟩)
                | (with_reducible show wpList _ _ _ (⟨some 121, _, _, _, _, _⟩ :: _) _ _; refine wpList_convs rfl _ rfl y1 y1.heap.size _ [97] 1 rfl rfl rfl rfl rfl (by omega) (by simp) ?_; intro y2 t2 d2; have F2 := F1.trans (d2.mono F1.size); have er2 := er1.later d2)
                | (with_reducible show wpList _ _ _ (⟨some 122, _, _, _, _, _⟩ :: _) _ _; refine wpList_zeros y2 rfl _ _ rfl .i64 .i64 1048576 1048576 1048576 rfl rfl rfl rfl (by omega) ?_; intro y3 t3 d3; have F3 := F2.trans (d3.mono F2.size); have er3 := er2.later d3; have hp := fput_any _ _ _ _ _ _ _ _ y3 (t2.later d3) t3 (by omega) (by omega))
                | (go_at_call 13; with_reducible refine hp.mono ?_; rintro e y4 ⟨po, pl, pc, rfl, t4, d4⟩; have hpl : pl = 1048583 := put_len t4; subst hpl; have F4 := F3.trans (d4.mono F3.size); have er4 := er3.later d4; have hb1 := batch_any _ _ _ _ _ (er4.read (k := 8191) (by omega) (by omega)))
                | (go_at_call 12; with_reducible refine hb1.mono ?_; rintro e y5 ⟨rfl, d5⟩; have F5 := F4.trans (d5.mono F4.size); have er5 := er4.later d5; have hb2 := batch_any _ _ _ _ _ (er5.read (k := 8192) (by omega) (by omega)))
                | (go_at_call 12; with_reducible refine hb2.mono ?_; rintro e y6 ⟨rfl, d6⟩; have F6 := F5.trans (d6.mono F5.size); have he := ents_bad y6)
                | (go_at_call 11; with_reducible refine he.mono ?_; rintro e y7 ⟨rfl, d7⟩; have F7 := F6.trans (d7.mono F6.size))
                | (go_at_call 14; with_reducible refine (known_any y7).mono ?_; rintro e y8 ⟨rfl, d8⟩; have F8 := F7.trans (d8.mono F7.size)))
              go_ret
              exact ⟨rfl, F8⟩

end Go.Proofs.Ytondfbjldonogaa
