/- manifest.Encode, walked. -/
import Derived.Test.YtgleblfkcdkaeaaDoorMRight
namespace Go.Proofs.YtgleblfkcdkaeaaDoor
open Go.RowKit Go.Sort

theorem put_k (K : Int) (k : Nat) (hK : K = (k : Int)) (hk : k ≤ 8) (ao : Option Addr) (la ca : Nat) (n : Int) (xs : List Int) (w : World) (ha : Tx w ao la ca xs) (sa : xs.length ≤ 900000000) (n1 : 0 ≤ n) (n2 : n ≤ 16777215) :
    Calls Tryd.prog 48 #[.slice ao la ca, .int .u64 n, .int .i64 K] w fun e w' => ∃ bo lb cb, e = .returned (.slice bo lb cb) ∧ Tx w' bo lb cb (xs ++ low k n) ∧ Below w.heap.size w w' := by
  have := ha.len_eq
  have h := put_any ao la ca n K xs w ha (by omega) n1 (by omega) (by omega) (by omega)
  rwa [show clampN K = k by unfold clampN; omega] at h

theorem u64_self {n : Int} (h1 : 0 ≤ n) (h2 : n ≤ 16777215) : IntKind.u64.wrap n = n := by rw [IntKind.wrap_u64]; omega
theorem flat3_succ {l : List Int} {k : Nat} {x : Int} (h : l[k]? = some x) : (l.take (k + 1)).flatMap (low 3) = (l.take k).flatMap (low 3) ++ low 3 x := by
  obtain ⟨hk, rfl⟩ := List.getElem?_eq_some_iff.1 h
  rw [List.take_succ_eq_append_getElem hk, List.flatMap_append, List.flatMap_cons, List.flatMap_nil, List.append_nil]

theorem man_box (w : World) (ao : Option Addr) (la ca : Nat) (wal nxt : Int) : ∃ V, V = w.alloc (.cells #[.slice ao la ca, .int .i64 wal, .int .i64 nxt] 24) ∧ V.cell? ⟨w.heap.size, 0, none⟩ = some (.slice ao la ca) ∧ V.cell? ⟨w.heap.size, 1, none⟩ = some (.int .i64 wal) ∧ V.cell? ⟨w.heap.size, 2, none⟩ = some (.int .i64 nxt) ∧ Below w.heap.size w V ∧ (∀ k, V.frozen? ⟨w.heap.size, k, none⟩ = false) ∧ V.heap.size = w.heap.size + 1 := by
  refine ⟨_, rfl, ?_, ?_, ?_, (Below.refl _ _).alloc (Nat.le_refl _) _, fun k => ?_, by simp⟩
  · rw [cell_of_row _ _ _ _ 24 (0, 0) (heap_alloc_new w _)]; rfl
  · rw [cell_of_row _ _ _ _ 24 (0, 0) (heap_alloc_new w _)]; rfl
  · rw [cell_of_row _ _ _ _ 24 (0, 0) (heap_alloc_new w _)]; rfl
  · exact frozen_of_row _ _ _ _ 24 (heap_alloc_new w _)

set_option maxHeartbeats 4000000 in
theorem encode_no (ao : Option Addr) (la ca : Nat) (ts : List Int) (wal nxt : Int) (w : World) (h : Lx 1 RI w ao la ca ts) (w1 : i64ok wal) (n1 : i64ok nxt) (hR : ¬ Man.Right ⟨ts, wal, nxt⟩) :
    Calls Tryd.prog 29 #[.agg #[.slice ao la ca, .int .i64 wal, .int .i64 nxt]] w fun e w' => e = .returned (.tuple #[.slice none 0 0, .int .i64 1]) ∧ Below w.heap.size w w' := by
  obtain ⟨V, hV, c0, c1, c2, hb, _, _⟩ := man_box w ao la ca wal nxt
  have hc := right_any ao la ca ts wal nxt V (h.later RI.stable hb) w1 n1
  rw [decide_eq_false hR] at hc
  clear hR
  go_enter Tryd.func29, Tryd.ntmps29
  go_wp2_with fail
  rw [← hV]
  clear hV
  with_reducible refine hc.mono ?_
  rintro e w1 ⟨rfl, hb1⟩
  go_wp2
  go_ret2
  exact ⟨rfl, below_trans hb hb1⟩

set_option maxHeartbeats 4000000 in
theorem encode_yes (ao : Option Addr) (la ca : Nat) (ts : List Int) (wal nxt : Int) (w : World) (h : Lx 1 RI w ao la ca ts) (w1 : i64ok wal) (n1 : i64ok nxt) (hR : Man.Right ⟨ts, wal, nxt⟩) :
    Calls Tryd.prog 29 #[.agg #[.slice ao la ca, .int .i64 wal, .int .i64 nxt]] w fun e w' => ∃ bo lb cb, e = .returned (.tuple #[.slice bo lb cb, .int .i64 0]) ∧ Tx w' bo lb cb (Man.enc ⟨ts, wal, nxt⟩) ∧ Below w.heap.size w w' := by
  obtain ⟨V, hV, c0, c1, c2, hb, _, hsz⟩ := man_box w ao la ca wal nxt
  have hLV := h.later RI.stable hb
  have hc := right_any ao la ca ts wal nxt V hLV w1 n1
  rw [decide_eq_true hR] at hc
  obtain ⟨a1, a2, a3, a4, a5, _⟩ := hR
  simp only at a1 a2 a3 a4 a5
  have e1 := h.len_eq
  have hw1 := u64_self (n := (la : Int)) (by omega) (by omega)
  have hw2 := u64_self (n := wal) (by omega) (by omega)
  have hw3 := u64_self (n := nxt) (by omega) (by omega)
  have p1 := fun w' => put_k 1 1 rfl (by omega) none 0 0 (la : Int) [] w' (Tx.nil w') (by simp) (by omega) (by omega)
  have hle := h.le
  have htop := h.top
  unfold maxLen at htop
  go_enter Tryd.func29, Tryd.ntmps29
  go_wp2_with fail
  rw [← hV]
  clear hV
  with_reducible refine hc.mono ?_
  rintro e V1 ⟨rfl, hb1⟩
  have d0 := cell_later hb1 c0
  go_wp2_with fail
  with_reducible refine (p1 V1).mono ?_
  rintro e V2 ⟨bo, lb, cb, rfl, t2, hb2⟩
  have hbb := below_trans hb1 hb2
  clear d0
  have d0 := cell_later hbb c0
  go_wp2
  go_loopw [4, 18] (fun out i wr => ∃ (k : Nat) (bo : Option Addr) (lb cb : Nat), k ≤ la ∧ i = .int .i64 k ∧ out = .slice bo lb cb ∧ Tx wr bo lb cb (low 1 (la : Int) ++ (ts.take k).flatMap (low 3)) ∧ Below V.heap.size V wr) (fun _ i _ => la - (intOf i).toNat)
  case atStart => exact ⟨0, bo, lb, cb, by omega, rfl, rfl, by simpa using t2, hbb⟩
  case round =>
    obtain ⟨k, bo, lb, cb, hk, rfl, rfl, t, hbw⟩ := hrel
    by_cases hk2 : k < la
    · obtain ⟨b, off, rfl, hcc⟩ := hLV.headI (by omega)
      have hx : ts[k]? = some (ts[k]'(by omega)) := by simp
      obtain ⟨x0, r1, r2⟩ := hcc k _ hx
      have hr := a5 _ (List.getElem_mem (by omega : k < ts.length))
      generalize ts[k]'(by omega) = x at hx x0 r1 r2 hr
      have x0 := cell_later hbw x0
      have hX := flat3_succ hx
      have hwx := u64_self (n := x) hr.1 (by omega)
      have hl3 : ((ts.take k).flatMap (low 3)).length = 3 * k := by rw [flat_len, List.length_take]; omega
      have pk := put_k 3 3 rfl (by omega) bo lb cb x _ wr t (by rw [List.length_append, length_low, hl3]; omega) hr.1 (by omega)
      clear hx hcc hc p1 t2 hl3
      have hXX : Hid ((ts.take (k + 1)).flatMap (low 3) = (ts.take k).flatMap (low 3) ++ low 3 x) := hX
      clear hX
      go_wp2_with fail
      with_reducible refine pk.mono ?_
      rintro e V3 ⟨bo3, lb3, cb3, rfl, t3, hb3⟩
      go_wp2
      go_round
      case rel => exact ⟨k + 1, bo3, lb3, cb3, by omega, by go_num, rfl, by rw [hXX.out, ← List.append_assoc]; exact t3, below_trans hbw hb3⟩
      case measure => simp [intOf]; omega
    · have hkk : k = la := by omega
      have t' : Tx wr bo lb cb (low 1 (ts.length : Int) ++ ts.flatMap (low 3)) := by
        have := t
        rw [hkk, ← e1, List.take_length] at this
        exact this
      have hl3 : (ts.flatMap (low 3)).length = 3 * la := by rw [flat_len, e1]
      have p2 := put_k 3 3 rfl (by omega) bo lb cb wal _ wr t' (by rw [List.length_append, length_low, hl3]; omega) (by omega) (by omega)
      have y1 := cell_later hbw c1
      have y2 := cell_later hbw c2
      clear p1 hc t t2
      go_wp2_with fail
      with_reducible refine p2.mono ?_
      rintro e V3 ⟨bo3, lb3, cb3, rfl, t3, hb3⟩
      have y2 := cell_later hb3 y2
      have p3 := put_k 3 3 rfl (by omega) bo3 lb3 cb3 nxt _ V3 t3 (by rw [List.length_append, List.length_append, length_low, length_low, hl3]; omega) (by omega) (by omega)
      go_wp2_with fail
      with_reducible refine p3.mono ?_
      rintro e V4 ⟨bo4, lb4, cb4, rfl, t4, hb4⟩
      go_wp2
      go_ret2
      exact ⟨bo4, lb4, cb4, rfl, t4, below_trans hb (below_trans hbw (below_trans hb3 hb4))⟩
end Go.Proofs.YtgleblfkcdkaeaaDoor
