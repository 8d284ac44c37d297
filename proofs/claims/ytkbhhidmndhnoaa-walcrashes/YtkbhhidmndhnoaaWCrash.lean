/- The walk of WalCrashes. -/
import Derived.Test.YtkbhhidmndhnoaaWAgain
import Derived.Test.YtkbhhidmndhnoaaWApp
namespace Go.Proofs.Ytkbhhidmndhnoaa
open Go.RowKit Go.Sort

theorem onew_sync (xs : List Int) (s : Nat) : (onew xs s).sync w0 = (onew xs xs.length, 0) := sync_one 16777216 w0 xs s
theorem onew_crash (xs : List Int) (s : Nat) (keep : Int) (hs : s ≤ xs.length) : ∃ k, s ≤ k ∧ k ≤ xs.length ∧ (onew xs s).crash keep = onew (xs.take k) k := crash_one 16777216 w0 xs s 0 false keep hs
theorem onew_pre (l : List (List Ent)) (hl : Fine l) (c : Nat) (hc : c ≤ (rowB l).length) : ∃ m, m ≤ l.length ∧ openM (onew ((rowB l).take c) c) w0 = (onew (rowB (l.take m)) (rowB (l.take m)).length, normB (l.take m), 0) ∧ (∀ j, j ≤ l.length → (rowB (l.take j)).length ≤ c → j ≤ m) := by
  obtain ⟨m, h1, h2, h3, _⟩ := open_pre 16777216 w0 l hl c hc
  exact ⟨m, h1, h2, h3⟩

def entM : Ent := ⟨[109, 111, 114, 101], [], false⟩
theorem fine_M : mayL [entM] = true ∧ (batchL [entM]).length ≤ 1000 := ⟨by decide, by decide⟩
theorem onew_more (L : List (List Ent)) (s : Nat) (hf : Fine L) (hl : L.length ≤ 100) : (onew (rowB L) s).append w0 (recL (batchL [entM])) = (onew (rowB (L ++ [[entM]])) s, 0) := by
  have h1 := rowB_length L hf
  rw [rowB_snoc]
  have h2 : (recL (batchL [entM])).length ≤ 1006 := by rw [length_recL]; have := fine_M.2; omega
  exact append_one 16777216 w0 _ _ s (by have := Nat.mul_le_mul_left 1006 hl; omega)

/-- What plain data say of the whole run behind the crash. -/
theorem crash_run (A B : List (List Ent)) (keep : Int) (hA : Fine A) (hB : Fine B) :
    ∃ m, A.length ≤ m ∧ m ≤ (A ++ B).length ∧ openM ((onew (rowB (A ++ B)) (rowB A).length).crash keep) w0 = (onew (rowB ((A ++ B).take m)) (rowB ((A ++ B).take m)).length, normB ((A ++ B).take m), 0) := by
  have hs : (rowB A).length ≤ (rowB (A ++ B)).length := by rw [rowB_append]; simp
  obtain ⟨k, k1, k2, k3⟩ := onew_crash (rowB (A ++ B)) (rowB A).length keep hs
  obtain ⟨m, m1, m2, m3⟩ := onew_pre (A ++ B) (hA.app hB) k k2
  refine ⟨m, m3 A.length (by simp) (by rw [List.take_left]; exact k1), m1, by rw [k3]; exact m2⟩
theorem onew_crash_files (xs : List Int) (s : Nat) (keep : Int) : ((onew xs s).crash keep).files.length ≤ 1000000 := by simp [onew, one, Dm.crash]

theorem conv_more (w : World) : (convert 22 22 (.slice (some ⟨w.heap.size, 0, none⟩) 4 4)).run Try.prog (w.alloc (.cells #[.int .u8 109, .int .u8 111, .int .u8 114, .int .u8 101] 5)) = .ok (.slice (some ⟨w.heap.size, 0, none⟩) 4 4) (w.alloc (.cells #[.int .u8 109, .int .u8 111, .int .u8 114, .int .u8 101] 5 (4, 5))) :=
  Lib.run_convert_bytes_const w 22 5 #[.int .u8 109, .int .u8 111, .int .u8 114, .int .u8 101] 4 4 Try.underlying22 Try.underlying5

theorem add_more {B : Nat} {V : World} {lg pb c : Nat} {L : List (List Ent)} {s : Nat} {bo : Option Addr} {lb cb : Nat} {ess : List (List Ent)} (h : Wl B V lg pb w0 c (onew (rowB L) s) bo lb cb ess) (hf : Fine L) (hl : L.length ≤ 100) (hc : c ≤ 1000) :
    Calls Try.prog 18 #[.pointer (some ⟨lg, 0, none⟩), .slice (some ⟨V.heap.size + 1, 0, none⟩) 1 1] ((V.alloc (.cells #[.int .u8 109, .int .u8 111, .int .u8 114, .int .u8 101] 5 (4, 5))).alloc (.cells #[.slice (some ⟨V.heap.size, 0, none⟩) 4 4, .slice none 0 0, .bool false] 24)) fun e w' => e = .returned (.int .i64 0) ∧ Wl B w' lg pb w0 (c + 1) (onew (rowB (L ++ [[entM]])) s) bo lb cb ess ∧ Below B V w' :=
  add_lit h #[.int .u8 109, .int .u8 111, .int .u8 114, .int .u8 101] (4, 5) [109, 111, 114, 101] 4 rfl rfl (by omega) (by simp) fine_M _ 0 (c + 1) (onew_more L s hf hl) rfl (onew_files' _ _) (by omega)

theorem lv_empty {w : World} {ao : Option Addr} {l c : Nat} {A : List (List Ent)} (x : Lx 1 RL w ao l c A) : Lv 1 RL (own (.slice (some ⟨w.heap.size, 0, none⟩) 0 0)) (w.alloc (.cells #[] 25)) ao l c A :=
  (x.lowL _ (by simp [own, Value.ownBlock])).later RL.stable ((Below.refl _ _).alloc (Nat.le_refl _) _)
theorem lv_second {w w9 : World} {v v9 : Value} {ao : Option Addr} {l c : Nat} {A : List (List Ent)} (x : Lv 1 RL (own v) w ao l c A) (h : Off (own v) w w9) (hs : ∀ k ∈ own v9, k ∈ own v ∨ w.heap.size ≤ k) : Lv 1 RL (own v9) w9 ao l c A := x.off RL.stable RL.plain (by omega) h hs
theorem lsx {w : World} {B : Nat} {ao : Option Addr} {n c : Nat} {es : List (List Ent)} (h : Ls 25 1 RL w B (.slice ao n c) es) : Lx 1 RL w ao n c es := by
  obtain ⟨ao', cap', e, hl⟩ := h.read RL.stable RL.plain
  simp only [Value.slice.injEq] at e
  obtain ⟨rfl, rfl, rfl⟩ := e
  exact hl
theorem two_below {w w9 w10 : World} {v9 : Value} {es : List (List Ent)} (h9 : Off (own (.slice (some ⟨w.heap.size, 0, none⟩) 0 0)) (w.alloc (.cells #[] 25)) w9) (l9 : Ls 25 1 RL w9 w.heap.size v9 es) (h10 : Off (own v9) w9 w10) : Below w.heap.size w w10 := by
  have b0 : Below w.heap.size w (w.alloc (.cells #[] 25)) := (Below.refl _ _).alloc (Nat.le_refl _) _
  have b9 := h9.below (B := w.heap.size) (by simp [own, Value.ownBlock]) b0.size
  have b10 := h10.below (B := w.heap.size) (fun k hk => (l9.lt k hk).2) (Nat.le_trans b0.size b9.size)
  exact (b0.trans b9).trans b10

set_option maxHeartbeats 8000000 in
set_option maxRecDepth 100000 in
theorem crashes_walk (ao : Option Addr) (la ca : Nat) (a : List (List Ent)) (bo : Option Addr) (lb cb : Nat) (b : List (List Ent)) (keep : Int) (kp1 : -9223372036854775808 ≤ keep) (kp2 : keep ≤ 9223372036854775807) (w : World) (hl : Lx 1 RL w ao la ca a) (hx : Lx 1 RL w bo lb cb b) :
    Calls Try.prog 5 #[.slice ao la ca, .slice bo lb cb, .int .i64 keep] w fun e w' => e = .returned (.bool true) ∧ Below w.heap.size w w' := by
  have a1 := batchesL_len 6 a
  have a2 := batchesL_fine 6 a
  have a3 := batchesL_small 6 a
  have k1 := batches_any ao la ca a 6 6 rfl (by omega) w hl
  generalize batchesL 6 a = A at a1 a2 a3 k1
  have b1 := batchesL_len 6 b
  have b2 := batchesL_fine 6 b
  have b3 := batchesL_small 6 b
  have k2 := fun V (h : Below w.heap.size w V) => batches_any bo lb cb b 6 6 rfl (by omega) V (hx.later RL.stable h)
  generalize batchesL 6 b = B at b1 b2 b3 k2
  obtain ⟨m, hm1, hm2, hcr⟩ := crash_run A B keep a2 b2
  have hfA : Fine (A ++ B) := a2.app b2
  have hsA : ∀ es ∈ A ++ B, es.length ≤ 8191 := fun es he => (List.mem_append.1 he).elim (a3 es) (b3 es)
  have hLl : (A ++ B).length ≤ 12 := by rw [List.length_append]; omega
  have hLe : (A ++ B).length = A.length + B.length := List.length_append
  have e0 : openM ⟨16777216, [], 0, false⟩ w0 = (onew [] 0, [], 0) := open_new 16777216 w0 w0_ok
  have g0 : (⟨16777216, [], 0, false⟩ : Dm).files.length ≤ 1000000 := by simp
  have hz := w0_size
  have hadA : ∀ (k : Nat) x, A[k]? = some x → (onew (rowB ((A ++ B).take k)) 0).append w0 (recL (batchL x)) = (onew (rowB ((A ++ B).take (k + 1))) 0, 0) := fun k x hk => onew_add (A ++ B) 0 k x (by rw [List.getElem?_append_left (List.getElem?_eq_some_iff.1 hk).1]; exact hk) hfA (by omega)
  have hadB : ∀ (k : Nat) x, B[k]? = some x → (onew (rowB ((A ++ B).take (A.length + k))) (rowB A).length).append w0 (recL (batchL x)) = (onew (rowB ((A ++ B).take (A.length + k + 1))) (rowB A).length, 0) := fun k x hk => onew_add (A ++ B) (rowB A).length (A.length + k) x (by rw [List.getElem?_append_right (by omega), Nat.add_sub_cancel_left]; exact hk) hfA (by omega)
  have hsy : (onew (rowB ((A ++ B).take A.length)) 0).sync w0 = (onew (rowB ((A ++ B).take A.length)) (rowB A).length, 0) := by rw [onew_sync, List.take_left]
  have hend : (A ++ B).take (A.length + B.length) = A ++ B := List.take_of_length_le (by omega)
  have hfm := hfA.take m
  have hlm : ((A ++ B).take m).length ≤ 100 := by rw [List.length_take]; omega
  have hfM : Fine ((A ++ B).take m ++ [[entM]]) := (hfA.take m).app (fun es he => by simp at he; subst he; exact fine_M)
  have hlM : ((A ++ B).take m ++ [[entM]]).length = m + 1 := by rw [List.length_append, List.length_take]; simp; omega
  have hnM : normB ((A ++ B).take m ++ [[entM]]) = normB ((A ++ B).take m) ++ [[norm entM]] := by simp [normB]
  have hln : (normB ((A ++ B).take m)).length = m := by rw [normB_len, List.length_take]; omega
  have hcf := onew_crash_files (rowB (A ++ B)) (rowB A).length keep
  go_enter Try.func5, Try.ntmps5
  go_wp2_with (first
    | (go_at_call 15; with_reducible refine k1.mono ?_; rintro e w1 ⟨po, lo, pc, rfl, x1, d1⟩)
    | (go_at_call 15; with_reducible refine (k2 w1 d1).mono ?_; rintro e w2 ⟨qo, lq, qc, rfl, y2, d2⟩; have x2 := x1.later RL.stable d2; have D2 := d1.trans (d2.mono d1.size))
    | (go_at_call 10; with_reducible refine (fresh_any w2).mono ?_; rintro e w3 ⟨rfl, k3, d3⟩)
    | (go_at_call 11; with_reducible refine (open_at k3 w0 (onew [] 0) [] 0 rfl e0 g0 hz).mono ?_; rintro e w4 ⟨lg, mo, mc, rfl, W4, d4⟩))
  clear x1 k1 k2
  have hlo := x2.len_eq
  have hpc := x2.le
  have hpt := x2.top
  unfold maxLen at hpt
  have hlq := y2.len_eq
  have hqc := y2.le
  have hqt := y2.top
  unfold maxLen at hqt
  go_loopw [11] (fun i wr => ∃ k : Nat, k ≤ lo ∧ i = .int .i64 k ∧ Wl w2.heap.size wr lg w2.heap.size w0 k (onew (rowB ((A ++ B).take k)) 0) none 0 0 [] ∧ Below w2.heap.size w2 wr) (fun i _ => lo - (intOf i).toNat)
  case atStart => exact ⟨0, by omega, rfl, W4.none, d3.trans d4⟩
  case round =>
    obtain ⟨k, hk, rfl, Wr, hb⟩ := hrel
    by_cases hk2 : k < lo
    · obtain ⟨bb, off, rfl, hc⟩ := x2.headL (by omega)
      have hxk : A[k]? = some (A[k]'(by omega)) := by simp
      obtain ⟨eo, el, ec, c1, t1⟩ := hc k _ hxk
      have hfx := a2 _ (List.getElem_mem (show k < A.length by omega))
      have hadd := hadA k _ hxk
      generalize A[k]'(by omega) = x at t1 hfx hadd
      have c1 := cell_later hb c1
      have hA := add_l Wr eo el ec x (t1.later RE.stable hb) hfx _ 0 (k + 1) hadd rfl (onew_files' _ 0) (by omega)
      clear hadd t1 hfx hxk hc
      go_wp2_with (go_at_call 18; with_reducible refine hA.mono ?_; rintro e w5 ⟨rfl, W5, d5⟩)
      go_roundw
      case rel => exact ⟨k + 1, by omega, by go_num, W5, hb.trans d5⟩
      case measure => simp [intOf]; omega
    · obtain rfl : k = lo := by omega
      rw [← hlo] at Wr
      go_wp2_with (go_at_call 19; with_reducible refine (lsync_l Wr _ 0 hsy (onew_files' _ 0)).mono ?_; rintro e w5 ⟨rfl, W5, d5⟩)
      have B5 := hb.trans d5
      go_loopw [12] (fun i wr => ∃ k : Nat, k ≤ lq ∧ i = .int .i64 k ∧ Wl w2.heap.size wr lg w2.heap.size w0 (A.length + k) (onew (rowB ((A ++ B).take (A.length + k))) (rowB A).length) none 0 0 [] ∧ Below w2.heap.size w2 wr) (fun i _ => lq - (intOf i).toNat)
      case atStart => exact ⟨0, by omega, rfl, W5, B5⟩
      case round =>
        obtain ⟨j, hj, rfl, Ws, hs⟩ := hrel
        by_cases hj2 : j < lq
        · obtain ⟨bb, off, rfl, hc⟩ := y2.headL (by omega)
          have hxk : B[j]? = some (B[j]'(by omega)) := by simp
          obtain ⟨eo, el, ec, c1, t1⟩ := hc j _ hxk
          have hfx := b2 _ (List.getElem_mem (show j < B.length by omega))
          have hadd := hadB j _ hxk
          generalize B[j]'(by omega) = x at t1 hfx hadd
          have c1 := cell_later hs c1
          have hA := add_l Ws eo el ec x (t1.later RE.stable hs) hfx _ 0 (A.length + j + 1) hadd rfl (onew_files' _ _) (by omega)
          clear hadd t1 hfx hxk hc
          go_wp2_with (go_at_call 18; with_reducible refine hA.mono ?_; rintro e w6 ⟨rfl, W6, d6⟩)
          go_roundw
          case rel => exact ⟨j + 1, by omega, by go_num, W6, hs.trans d6⟩
          case measure => simp [intOf]; omega
        · obtain rfl : j = lq := by omega
          rw [← hlq, hend] at Ws
          have K6 := Ws.dl
          clear Wr W5 Ws W4 hadA hadB hsy hend
          have hDf : (onew (rowB (A ++ B)) (rowB A).length).files.length ≤ 1000000 := onew_files' _ _
          generalize (onew (rowB (A ++ B)) (rowB A).length) = DX at K6 hcr hcf hDf
          have hLM : (normB ((A ++ B).take m ++ [[entM]])).take m = normB ((A ++ B).take m) := by rw [hnM]; exact List.take_left' hln
          have hsm : ∀ es ∈ normB ((A ++ B).take m), es.length ≤ 8191 := normB_small (fun es he => hsA es (List.mem_of_mem_take he))
          have hsB := sameB_norm ((A ++ B).take m)
          have hrefl := sameB_refl (normB ((A ++ B).take m))
          clear hnM
          have hm1' : ¬ (m : Int) < (k : Int) := by omega
          have hm3 : m ≤ 12 := by omega
          go_wp2_with (first
            | (go_at_call 20; with_reducible refine (crash_l K6 keep hDf kp1 kp2).mono ?_; rintro e w7 ⟨rfl, K7, d7⟩)
            | (go_at_call 11; with_reducible refine (open_at K7 w0 _ (normB ((A ++ B).take m)) m hln hcr hcf hz).mono ?_; rintro e w8 ⟨lg8, mo8, mc8, rfl, W8, d8⟩; have B8 := (hs.trans d7).trans d8; have lA := lv_empty (x2.later RL.stable B8); have lB := lv_empty (y2.later RL.stable B8); have l0 := ls_empty w8; have hs8 : w8.heap.size ≤ (w8.alloc (.cells #[] 25)).heap.size := (by simp))
            | (with_reducible show wpList _ _ _ (⟨some 79, _, _, _, _, _⟩ :: _) _ _; refine wpList_allL rfl _ _ rfl w8.heap.size (.slice (some ⟨w8.heap.size, 0, none⟩) 0 0) [] rfl l0 po k pc A rfl lA (by simp; omega) hs8 ?_; intro ao9 n9 c9 w9 hn9 ls9 of9 sub9; have lB9 := lv_second lB of9 sub9; rw [List.nil_append] at ls9; have hs9 := Nat.le_trans hs8 of9.size)
            | (with_reducible show wpList _ _ _ (⟨some 81, _, _, _, _, _⟩ :: _) _ _; refine wpList_allL rfl _ _ rfl w8.heap.size (.slice ao9 n9 c9) A rfl ls9 qo j qc B rfl lB9 (by omega) hs9 ?_; intro ao10 n10 c10 w10 hn10 ls10 of10 sub10; have b10 := two_below of9 ls9 of10; have l10 := lsx ls10; have W10 := W8.later b10; have B10 := B8.trans (b10.mono B8.size); have hc10 := l10.le; have hmn : ¬ (n10 : Int) < (m : Int) := (by have := l10.len_eq; omega); have hmn' : m ≤ n10 := (by have := l10.len_eq; omega); have hmc : m ≤ c10 := (by omega); have hS := same_yes mo8 ao10 m mc8 m c10 _ _ w10 W10.list (l10.take m hmn') (by omega) hsB hsm)
            | (go_at_call 21; with_reducible refine hS.mono ?_; rintro e w11 ⟨rfl, b11⟩; have W11 := W10.later b11; have B11 := B10.trans (b11.mono B10.size); have cv := conv_more w11; have ga := add_more W11 hfm hlm (by omega))
            | (go_at_call 18; with_reducible refine ga.mono ?_; rintro e w12 ⟨rfl, W12, b12⟩; have B12 := B11.trans b12)
            | (go_at_call 11; with_reducible refine (open_onew _ _ W12.dl hfM (m + 1) hlM).mono ?_; rintro e w13 ⟨lg13, no13, nc13, rfl, W13, b13⟩; have B13 := B12.trans (b13.mono B12.size); have lN := W13.list.take m (by omega); have hnc := W13.list.le; have hS2 := same_yes no13 mo8 m nc13 m mc8 _ _ w13 lN (W12.list.later RL.stable b13) (by omega) (hLM.symm ▸ hrefl) (hLM.symm ▸ hsm))
            | (go_at_call 21; with_reducible refine hS2.mono ?_; rintro e w14 ⟨rfl, b14⟩; have B14 := B13.trans (b14.mono B13.size))
            | (go_at_call 14; with_reducible refine (known_any w14).mono ?_; rintro e w15 ⟨rfl, b15⟩))
          go_ret
          have B15 := B14.trans (b15.mono B14.size)
          exact ⟨rfl, D2.trans (B15.mono D2.size)⟩

end Go.Proofs.Ytkbhhidmndhnoaa
