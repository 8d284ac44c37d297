/- The walk of OctetNumbers: a closed sentence: chapter 2's runs, sizes at each bound, texts of each end. -/
import Derived.Test.YtaojhaicbjnhiaaTells
import Derived.Lib.QuietBelow
namespace Go.Proofs.Ytaojhaicbjnhiaa
open Go.RowKit Go.Sort

/-- Ten texts lie in a row. -/
def Lists (w : World) (g : Nat) : Prop := ∀ i, i < 10 → ∃ ao l c xs, w.cell? ⟨g, i, none⟩ = some (.slice ao l c) ∧ l ≤ 10 ∧ Tx w ao l c xs

theorem Lists.later {w w' : World} {g : Nat} (h : Lists w g) (hb : Below w.heap.size w w') : Lists w' g := by
  intro i hi
  obtain ⟨ao, l, c, xs, hc, hl, ht⟩ := h i hi
  exact ⟨ao, l, c, xs, cell_later hb hc, hl, ht.later hb⟩

theorem tx_markAt (w : World) (cs : Array Value) (fr : Nat × Nat) (xs : List Int) (n g : Nat) (hg : g = w.heap.size) (hc : cs = (xs.map (Value.int .u8)).toArray) (hn : xs.length = n) (hm : n ≤ 1000000) (hr : ∀ x ∈ xs, 0 ≤ x ∧ x ≤ 255) :
    Tx (w.alloc (.cells cs 5 fr)) (some ⟨g, 0, none⟩) n n xs := by
  subst hg; exact tx_mark w cs fr xs n hc hn hm hr

set_option maxRecDepth 100000 in
theorem numbers_lists (u : World) : Lists ((((((((((u.alloc (Obj.cells #[Value.int IntKind.u8 0] 5)).alloc (Obj.cells #[Value.int IntKind.u8 255] 5)).alloc (Obj.cells #[Value.int IntKind.u8 255, Value.int IntKind.u8 255] 5)).alloc (Obj.cells #[Value.int IntKind.u8 1, Value.int IntKind.u8 255, Value.int IntKind.u8 255] 5)).alloc (Obj.cells #[Value.int IntKind.u8 1] 5)).alloc (Obj.cells #[Value.int IntKind.u8 1, Value.int IntKind.u8 0] 5)).alloc (Obj.cells #[Value.int IntKind.u8 1, Value.int IntKind.u8 1] 5)).alloc (Obj.cells #[Value.int IntKind.u8 97, Value.int IntKind.u8 98] 5 (2, 3))).alloc (Obj.cells #[Value.int IntKind.u8 97, Value.int IntKind.u8 98, Value.int IntKind.u8 99] 5 (3, 4))).alloc (Obj.cells #[Value.slice none 0 0, Value.slice (some { block := u.heap.size, off := 0 }) 1 1, Value.slice (some { block := u.heap.size + 1, off := 0 }) 1 1, Value.slice (some { block := u.heap.size + 2, off := 0 }) 2 2, Value.slice (some { block := u.heap.size + 3, off := 0 }) 3 3, Value.slice (some { block := u.heap.size + 4, off := 0 }) 1 1, Value.slice (some { block := u.heap.size + 5, off := 0 }) 2 2, Value.slice (some { block := u.heap.size + 6, off := 0 }) 2 2, Value.slice (some { block := u.heap.size + 7, off := 0 }) 2 2, Value.slice (some { block := u.heap.size + 8, off := 0 }) 3 3] 23)) (u.heap.size + 9) ∧ Below u.heap.size u ((((((((((u.alloc (Obj.cells #[Value.int IntKind.u8 0] 5)).alloc (Obj.cells #[Value.int IntKind.u8 255] 5)).alloc (Obj.cells #[Value.int IntKind.u8 255, Value.int IntKind.u8 255] 5)).alloc (Obj.cells #[Value.int IntKind.u8 1, Value.int IntKind.u8 255, Value.int IntKind.u8 255] 5)).alloc (Obj.cells #[Value.int IntKind.u8 1] 5)).alloc (Obj.cells #[Value.int IntKind.u8 1, Value.int IntKind.u8 0] 5)).alloc (Obj.cells #[Value.int IntKind.u8 1, Value.int IntKind.u8 1] 5)).alloc (Obj.cells #[Value.int IntKind.u8 97, Value.int IntKind.u8 98] 5 (2, 3))).alloc (Obj.cells #[Value.int IntKind.u8 97, Value.int IntKind.u8 98, Value.int IntKind.u8 99] 5 (3, 4))).alloc (Obj.cells #[Value.slice none 0 0, Value.slice (some { block := u.heap.size, off := 0 }) 1 1, Value.slice (some { block := u.heap.size + 1, off := 0 }) 1 1, Value.slice (some { block := u.heap.size + 2, off := 0 }) 2 2, Value.slice (some { block := u.heap.size + 3, off := 0 }) 3 3, Value.slice (some { block := u.heap.size + 4, off := 0 }) 1 1, Value.slice (some { block := u.heap.size + 5, off := 0 }) 2 2, Value.slice (some { block := u.heap.size + 6, off := 0 }) 2 2, Value.slice (some { block := u.heap.size + 7, off := 0 }) 2 2, Value.slice (some { block := u.heap.size + 8, off := 0 }) 3 3] 23)) := by
  have t0 := tx_markAt u #[.int .u8 0] (0, 0) [0] 1 u.heap.size (by simp) rfl rfl (by omega) (by simp)
  have t1 := tx_markAt (u.alloc (Obj.cells #[Value.int IntKind.u8 0] 5)) #[.int .u8 255] (0, 0) [255] 1 (u.heap.size + 1) (by simp) rfl rfl (by omega) (by simp)
  have t2 := tx_markAt ((u.alloc (Obj.cells #[Value.int IntKind.u8 0] 5)).alloc (Obj.cells #[Value.int IntKind.u8 255] 5)) #[.int .u8 255, .int .u8 255] (0, 0) [255, 255] 2 (u.heap.size + 2) (by simp) rfl rfl (by omega) (by simp)
  have t3 := tx_markAt (((u.alloc (Obj.cells #[Value.int IntKind.u8 0] 5)).alloc (Obj.cells #[Value.int IntKind.u8 255] 5)).alloc (Obj.cells #[Value.int IntKind.u8 255, Value.int IntKind.u8 255] 5)) #[.int .u8 1, .int .u8 255, .int .u8 255] (0, 0) [1, 255, 255] 3 (u.heap.size + 3) (by simp) rfl rfl (by omega) (by simp)
  have t4 := tx_markAt ((((u.alloc (Obj.cells #[Value.int IntKind.u8 0] 5)).alloc (Obj.cells #[Value.int IntKind.u8 255] 5)).alloc (Obj.cells #[Value.int IntKind.u8 255, Value.int IntKind.u8 255] 5)).alloc (Obj.cells #[Value.int IntKind.u8 1, Value.int IntKind.u8 255, Value.int IntKind.u8 255] 5)) #[.int .u8 1] (0, 0) [1] 1 (u.heap.size + 4) (by simp) rfl rfl (by omega) (by simp)
  have t5 := tx_markAt (((((u.alloc (Obj.cells #[Value.int IntKind.u8 0] 5)).alloc (Obj.cells #[Value.int IntKind.u8 255] 5)).alloc (Obj.cells #[Value.int IntKind.u8 255, Value.int IntKind.u8 255] 5)).alloc (Obj.cells #[Value.int IntKind.u8 1, Value.int IntKind.u8 255, Value.int IntKind.u8 255] 5)).alloc (Obj.cells #[Value.int IntKind.u8 1] 5)) #[.int .u8 1, .int .u8 0] (0, 0) [1, 0] 2 (u.heap.size + 5) (by simp) rfl rfl (by omega) (by simp)
  have t6 := tx_markAt ((((((u.alloc (Obj.cells #[Value.int IntKind.u8 0] 5)).alloc (Obj.cells #[Value.int IntKind.u8 255] 5)).alloc (Obj.cells #[Value.int IntKind.u8 255, Value.int IntKind.u8 255] 5)).alloc (Obj.cells #[Value.int IntKind.u8 1, Value.int IntKind.u8 255, Value.int IntKind.u8 255] 5)).alloc (Obj.cells #[Value.int IntKind.u8 1] 5)).alloc (Obj.cells #[Value.int IntKind.u8 1, Value.int IntKind.u8 0] 5)) #[.int .u8 1, .int .u8 1] (0, 0) [1, 1] 2 (u.heap.size + 6) (by simp) rfl rfl (by omega) (by simp)
  have t7 := tx_markAt (((((((u.alloc (Obj.cells #[Value.int IntKind.u8 0] 5)).alloc (Obj.cells #[Value.int IntKind.u8 255] 5)).alloc (Obj.cells #[Value.int IntKind.u8 255, Value.int IntKind.u8 255] 5)).alloc (Obj.cells #[Value.int IntKind.u8 1, Value.int IntKind.u8 255, Value.int IntKind.u8 255] 5)).alloc (Obj.cells #[Value.int IntKind.u8 1] 5)).alloc (Obj.cells #[Value.int IntKind.u8 1, Value.int IntKind.u8 0] 5)).alloc (Obj.cells #[Value.int IntKind.u8 1, Value.int IntKind.u8 1] 5)) #[.int .u8 97, .int .u8 98] (2, 3) [97, 98] 2 (u.heap.size + 7) (by simp) rfl rfl (by omega) (by simp)
  have t8 := tx_markAt ((((((((u.alloc (Obj.cells #[Value.int IntKind.u8 0] 5)).alloc (Obj.cells #[Value.int IntKind.u8 255] 5)).alloc (Obj.cells #[Value.int IntKind.u8 255, Value.int IntKind.u8 255] 5)).alloc (Obj.cells #[Value.int IntKind.u8 1, Value.int IntKind.u8 255, Value.int IntKind.u8 255] 5)).alloc (Obj.cells #[Value.int IntKind.u8 1] 5)).alloc (Obj.cells #[Value.int IntKind.u8 1, Value.int IntKind.u8 0] 5)).alloc (Obj.cells #[Value.int IntKind.u8 1, Value.int IntKind.u8 1] 5)).alloc (Obj.cells #[Value.int IntKind.u8 97, Value.int IntKind.u8 98] 5 (2, 3))) #[.int .u8 97, .int .u8 98, .int .u8 99] (3, 4) [97, 98, 99] 3 (u.heap.size + 8) (by simp) rfl rfl (by omega) (by simp)
  refine ⟨fun i hi => ?_, ?_⟩
  · have hi' : i = 0 ∨ i = 1 ∨ i = 2 ∨ i = 3 ∨ i = 4 ∨ i = 5 ∨ i = 6 ∨ i = 7 ∨ i = 8 ∨ i = 9 := by omega
    rcases hi' with rfl | rfl | rfl | rfl | rfl | rfl | rfl | rfl | rfl | rfl
    · exact ⟨none, 0, 0, [], by simp [go_sem], by omega, Tx.nil _⟩
    · exact ⟨some ⟨u.heap.size, 0, none⟩, 1, 1, _, by simp [go_sem], by omega, (Tx.alloc (Tx.alloc (Tx.alloc (Tx.alloc (Tx.alloc (Tx.alloc (Tx.alloc (Tx.alloc (Tx.alloc t0 _) _) _) _) _) _) _) _) _)⟩
    · exact ⟨some ⟨u.heap.size + 1, 0, none⟩, 1, 1, _, by simp [go_sem], by omega, (Tx.alloc (Tx.alloc (Tx.alloc (Tx.alloc (Tx.alloc (Tx.alloc (Tx.alloc (Tx.alloc t1 _) _) _) _) _) _) _) _)⟩
    · exact ⟨some ⟨u.heap.size + 2, 0, none⟩, 2, 2, _, by simp [go_sem], by omega, (Tx.alloc (Tx.alloc (Tx.alloc (Tx.alloc (Tx.alloc (Tx.alloc (Tx.alloc t2 _) _) _) _) _) _) _)⟩
    · exact ⟨some ⟨u.heap.size + 3, 0, none⟩, 3, 3, _, by simp [go_sem], by omega, (Tx.alloc (Tx.alloc (Tx.alloc (Tx.alloc (Tx.alloc (Tx.alloc t3 _) _) _) _) _) _)⟩
    · exact ⟨some ⟨u.heap.size + 4, 0, none⟩, 1, 1, _, by simp [go_sem], by omega, (Tx.alloc (Tx.alloc (Tx.alloc (Tx.alloc (Tx.alloc t4 _) _) _) _) _)⟩
    · exact ⟨some ⟨u.heap.size + 5, 0, none⟩, 2, 2, _, by simp [go_sem], by omega, (Tx.alloc (Tx.alloc (Tx.alloc (Tx.alloc t5 _) _) _) _)⟩
    · exact ⟨some ⟨u.heap.size + 6, 0, none⟩, 2, 2, _, by simp [go_sem], by omega, (Tx.alloc (Tx.alloc (Tx.alloc t6 _) _) _)⟩
    · exact ⟨some ⟨u.heap.size + 7, 0, none⟩, 2, 2, _, by simp [go_sem], by omega, (Tx.alloc (Tx.alloc t7 _) _)⟩
    · exact ⟨some ⟨u.heap.size + 8, 0, none⟩, 3, 3, _, by simp [go_sem], by omega, (Tx.alloc t8 _)⟩
  · exact (((((((((((Below.refl u.heap.size u).alloc (by simp <;> omega) _).alloc (by simp <;> omega) _).alloc (by simp <;> omega) _).alloc (by simp <;> omega) _).alloc (by simp <;> omega) _).alloc (by simp <;> omega) _).alloc (by simp <;> omega) _).alloc (by simp <;> omega) _).alloc (by simp <;> omega) _).alloc (by simp <;> omega) _)

theorem conv_abAt (w : World) (g : Nat) (hg : g = w.heap.size) : (convert 23 23 (.slice (some ⟨g, 0, none⟩) 3 3)).run Try.prog (w.alloc (.cells #[.int .u8 97, .int .u8 98, .int .u8 99] 5)) = .ok (.slice (some ⟨g, 0, none⟩) 3 3) (w.alloc (.cells #[.int .u8 97, .int .u8 98, .int .u8 99] 5 (3, 4))) := by
  subst hg
  exact Lib.run_convert_bytes_const w 23 5 #[.int .u8 97, .int .u8 98, .int .u8 99] 3 3 Try.underlying23 Try.underlying5

theorem tx_nine (u : World) : Tx (u.alloc (.cells #[.int .u8 1, .int .u8 2, .int .u8 3, .int .u8 4, .int .u8 5, .int .u8 6, .int .u8 7, .int .u8 8, .int .u8 9] 5)) (some ⟨u.heap.size, 0, none⟩) 9 9 [1, 2, 3, 4, 5, 6, 7, 8, 9] :=
  tx_lit u _ [1, 2, 3, 4, 5, 6, 7, 8, 9] 9 rfl rfl (by omega) (by simp)

theorem size_alloc (u : World) (o : Obj) : u.heap.size < (u.alloc o).heap.size := by simp

theorem below_via {w u v : World} {B C : Nat} (h : Below B w u) (k : Below C u v) (hBC : B ≤ C) : Below B w v := h.trans (k.mono hBC)

set_option maxRecDepth 100000 in
set_option maxHeartbeats 4000000 in
theorem numbers_walk (w : World) :
    Calls Try.prog 3 #[] w fun e w' => e = .returned (.bool true) ∧ Below w.heap.size w w' := by
  go_enter Try.func3, Try.ntmps3
  go_wp2_with fail
  go_loopw [1] (fun t v => ∃ (s : Int) (V : World), -2 ≤ s ∧ s ≤ 11 ∧ t = .int .i64 s ∧ V = v ∧ Below w.heap.size w V) (fun t _ => (11 - intOf t).toNat)
  case atStart => exact ⟨-2, _, by omega, by omega, rfl, rfl, Below.refl _ _⟩
  case round =>
    obtain ⟨s, u, s1, s2, rfl, rfl, hu⟩ := hrel
    by_cases hs : s < 11
    · go_wp2_with (first | (go_at_call 7; with_reducible refine (lays_any (some ⟨u.heap.size, 0, none⟩) 9 9 9223372036854776066 s _ _ (tx_nine u) (by omega) (by omega) (by omega) (by omega) (by omega)).mono ?_; rintro e u1 ⟨rfl, b1⟩; have B1 := below_via (hu.alloc hu.size _) (b1.mono (Nat.le_of_lt (size_alloc u _))) hu.size) | (go_at_call 7; with_reducible refine (lays_any (some ⟨u1.heap.size, 0, none⟩) 1 1 0 s _ _ (tx_one u1 255 (by omega)) (by omega) (by omega) (by omega) (by omega) (by omega)).mono ?_; rintro e u2 ⟨rfl, b2⟩; have B2 := below_via (B1.alloc B1.size _) (b2.mono (Nat.le_of_lt (size_alloc u1 _))) B1.size))
      go_roundw
      case rel => exact ⟨s + 1, _, by omega, by omega, rfl, rfl, B2⟩
      case measure => simp [intOf]; omega
    · have hL := numbers_lists u
      have g7 := conv_ab (((((((u.alloc (Obj.cells #[Value.int IntKind.u8 0] 5)).alloc (Obj.cells #[Value.int IntKind.u8 255] 5)).alloc (Obj.cells #[Value.int IntKind.u8 255, Value.int IntKind.u8 255] 5)).alloc (Obj.cells #[Value.int IntKind.u8 1, Value.int IntKind.u8 255, Value.int IntKind.u8 255] 5)).alloc (Obj.cells #[Value.int IntKind.u8 1] 5)).alloc (Obj.cells #[Value.int IntKind.u8 1, Value.int IntKind.u8 0] 5)).alloc (Obj.cells #[Value.int IntKind.u8 1, Value.int IntKind.u8 1] 5)) (u.heap.size + 7) (by simp)
      have g8 := conv_abAt ((((((((u.alloc (Obj.cells #[Value.int IntKind.u8 0] 5)).alloc (Obj.cells #[Value.int IntKind.u8 255] 5)).alloc (Obj.cells #[Value.int IntKind.u8 255, Value.int IntKind.u8 255] 5)).alloc (Obj.cells #[Value.int IntKind.u8 1, Value.int IntKind.u8 255, Value.int IntKind.u8 255] 5)).alloc (Obj.cells #[Value.int IntKind.u8 1] 5)).alloc (Obj.cells #[Value.int IntKind.u8 1, Value.int IntKind.u8 0] 5)).alloc (Obj.cells #[Value.int IntKind.u8 1, Value.int IntKind.u8 1] 5)).alloc (Obj.cells #[Value.int IntKind.u8 97, Value.int IntKind.u8 98] 5 (2, 3))) (u.heap.size + 8) (by simp)
      go_wp2_with fail
      clear g7 g8
      obtain ⟨hL1, hL2⟩ := hL
      have hB := below_via hu hL2 hu.size
      clear hL2
      generalize ((((((((((u.alloc (Obj.cells #[Value.int IntKind.u8 0] 5)).alloc (Obj.cells #[Value.int IntKind.u8 255] 5)).alloc (Obj.cells #[Value.int IntKind.u8 255, Value.int IntKind.u8 255] 5)).alloc (Obj.cells #[Value.int IntKind.u8 1, Value.int IntKind.u8 255, Value.int IntKind.u8 255] 5)).alloc (Obj.cells #[Value.int IntKind.u8 1] 5)).alloc (Obj.cells #[Value.int IntKind.u8 1, Value.int IntKind.u8 0] 5)).alloc (Obj.cells #[Value.int IntKind.u8 1, Value.int IntKind.u8 1] 5)).alloc (Obj.cells #[Value.int IntKind.u8 97, Value.int IntKind.u8 98] 5 (2, 3))).alloc (Obj.cells #[Value.int IntKind.u8 97, Value.int IntKind.u8 98, Value.int IntKind.u8 99] 5 (3, 4))).alloc (Obj.cells #[Value.slice none 0 0, Value.slice (some { block := u.heap.size, off := 0 }) 1 1, Value.slice (some { block := u.heap.size + 1, off := 0 }) 1 1, Value.slice (some { block := u.heap.size + 2, off := 0 }) 2 2, Value.slice (some { block := u.heap.size + 3, off := 0 }) 3 3, Value.slice (some { block := u.heap.size + 4, off := 0 }) 1 1, Value.slice (some { block := u.heap.size + 5, off := 0 }) 2 2, Value.slice (some { block := u.heap.size + 6, off := 0 }) 2 2, Value.slice (some { block := u.heap.size + 7, off := 0 }) 2 2, Value.slice (some { block := u.heap.size + 8, off := 0 }) 3 3] 23)) = V0 at hL1 hB ⊢
      generalize u.heap.size + 9 = G at hL1 ⊢
      go_loopw [3, 4] (fun t _ v => ∃ (i : Nat) (V : World), i ≤ 10 ∧ t = .int .i64 i ∧ V = v ∧ Below V0.heap.size V0 V) (fun t _ _ => 10 - (intOf t).toNat)
      case atStart => exact ⟨0, _, by omega, rfl, rfl, Below.refl _ _⟩
      case round =>
        obtain ⟨i, u2, hi, rfl, rfl, hu2⟩ := hrel
        by_cases hlt : i < 10
        · have hlt' : (i : Int) < 10 := by omega
          obtain ⟨ao, l, c, xs, cx, lx, tx⟩ := hL1 i hlt
          go_wp2_with fail
          go_loopw [4] (fun t v => ∃ (k : Nat) (V : World), k ≤ 10 ∧ t = .int .i64 k ∧ V = v ∧ Below V0.heap.size V0 V) (fun t _ => 10 - (intOf t).toNat)
          case atStart => exact ⟨0, _, by omega, rfl, rfl, hu2⟩
          case round =>
            obtain ⟨k, u', hk, rfl, rfl, hu'⟩ := hrel
            by_cases hkt : k < 10
            · have hkt' : (k : Int) < 10 := by omega
              obtain ⟨bo, m, d, ys, cy, ly, ty⟩ := hL1 k hkt
              clear hL1
              replace cx := cell_later hu' cx
              replace cy := cell_later hu' cy
              replace tx := tx.later hu'
              replace ty := ty.later hu'
              go_wp2_with fail
              have qx := fun d os => cell_regrown cx d os
              have qy := fun d os => cell_regrown cy d os
              have HO : ∀ d' os, Calls Try.prog 8 #[.slice ao l c, .slice bo m d] (grow (redrawn u' d') os) fun e w' => e = .returned (.bool true) ∧ Below (grow (redrawn u' d') os).heap.size (grow (redrawn u' d') os) w' := fun d' os => order_any ao bo l c m d xs ys _ (tx.later (below_regrown u' d' os)) (ty.later (below_regrown u' d' os)) (by omega) (by omega)
              refine wp_region_quiet_below (by kernel_rfl) (by kernel_rfl) ?_
              repeat (quiet_step (first | (go_at_call 8; with_reducible exact Calls.regrown_of (HO _ _))))
              refine wpQuiet_nil ?_
              intro _ hw'
              obtain ⟨⟨dq, osq⟩, hw''⟩ := hw'
              subst hw''
              go_wp2
              go_roundw
              case rel => exact ⟨k + 1, _, by omega, by go_num, rfl, below_via hu' (below_regrown u' dq osq) hu'.size⟩
              case measure => simp [intOf]; omega
            · have hkt' : ¬ (k : Int) < 10 := by omega
              clear hL1
              go_wp2
              go_roundw
              case rel => exact ⟨i + 1, _, by omega, by go_num, rfl, hu'⟩
              case measure => simp [intOf]; omega
        · have hlt' : ¬ (i : Int) < 10 := by omega
          clear hL1
          have hB2 := below_via hB hu2 hB.size
          go_wp2_with (go_at_call 9; with_reducible refine (known_any u2).mono ?_; rintro e w9 ⟨rfl, b9⟩)
          go_ret
          exact ⟨rfl, below_via hB2 b9 hB2.size⟩

end Go.Proofs.Ytaojhaicbjnhiaa
