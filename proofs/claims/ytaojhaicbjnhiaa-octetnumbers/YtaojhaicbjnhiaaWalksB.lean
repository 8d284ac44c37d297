/- The walks of octet.Less, marigraphkeep.Cut, octet.Get. -/
import Derived.Test.YtaojhaicbjnhiaaWalksA
namespace Go.Proofs.Ytaojhaicbjnhiaa
open Go.RowKit

theorem less_any (ao bo : Option Addr) (la ca lb cb : Nat) (xs ys : List Int) (w : World) (ha : Tx w ao la ca xs) (hb : Tx w bo lb cb ys) (sa : la ≤ 140737488351232) (sb : lb ≤ 140737488351232) :
    Calls Try.prog 15 #[.slice ao la ca, .slice bo lb cb] w fun e w' => e = .returned (.bool (lessB xs ys)) ∧ Below w.heap.size w w' := by
  have e1 := ha.len_eq
  have e2 := hb.len_eq
  have hs := shared_le xs ys
  have hend := lessB_end xs ys
  have hat := lessB_at xs ys
  have hsh := shared_any ao bo la ca lb cb xs ys w ha hb sa sb
  generalize shared xs ys = k at hs hend hat hsh
  by_cases h0 : k = la ∨ k = lb
  · by_cases h1 : k = la
    · have t1 : ((k : Int) == (la : Int)) = true := by simp [h1]
      go_enter Try.func15, Try.ntmps15
      go_wp2_with (go_at_call 17; with_reducible refine hsh.mono ?_; rintro e w1 ⟨rfl, hb1⟩)
      go_ret
      exact ⟨ret_bool (by rw [hend (by omega), e1, e2]), hb1⟩
    · have t1 : ((k : Int) == (la : Int)) = false := by simp; omega
      have t2 : ((k : Int) == (lb : Int)) = true := by simp; omega
      go_enter Try.func15, Try.ntmps15
      go_wp2_with (go_at_call 17; with_reducible refine hsh.mono ?_; rintro e w1 ⟨rfl, hb1⟩)
      go_ret
      exact ⟨ret_bool (by rw [hend (by omega), e1, e2]), hb1⟩
  · obtain ⟨ab, af, rfl, hca⟩ := ha.head (by omega)
    obtain ⟨bb, bf, rfl, hcb⟩ := hb.head (by omega)
    have c1 := hca k (by omega)
    have c2 := hcb k (by omega)
    have t1 : ((k : Int) == (la : Int)) = false := by simp; omega
    have t2 : ((k : Int) == (lb : Int)) = false := by simp; omega
    generalize hx : xs.getD k 0 = x at c1 hat
    generalize hy : ys.getD k 0 = y at c2 hat
    go_enter Try.func15, Try.ntmps15
    go_wp2_with (go_at_call 17; with_reducible refine hsh.mono ?_; rintro e w1 ⟨rfl, hb1⟩; have d1 := cell_later hb1 c1; have d2 := cell_later hb1 c2)
    go_quiet (fail)
    go_wp2
    go_ret
    exact ⟨ret_bool (by rw [hat (by omega) (by omega)]), below_drewN hb1 _⟩

theorem cut_any (ao : Option Addr) (la ca n : Nat) (xs : List Int) (w : World) (ha : Tx w ao la ca xs) (hn : n ≤ 1000) :
    Calls Try.prog 10 #[.slice ao la ca, .int .i64 n] w fun e w' => ∃ l, e = .returned (.slice ao l ca) ∧ l ≤ n ∧ Tx w ao l ca (xs.take n) ∧ w' = w := by
  have e1 := ha.len_eq
  have e2 := ha.le
  have e3 := ha.top
  by_cases h : n < la
  · go_enter Try.func10, Try.ntmps10
    go_wp2
    go_ret
    exact ⟨n, rfl, by omega, ha.take n (by omega), rfl⟩
  · go_enter Try.func10, Try.ntmps10
    go_wp2
    go_ret
    exact ⟨la, rfl, by omega, by rw [List.take_of_length_le (by omega)]; exact ha, rfl⟩

/-- One byte more, as Go says it: n<<8 | c. -/
def joinB (n c : Int) : Int := bits .or .u64 (IntKind.u64.wrap (n * 256)) c
def val (xs : List Int) : Int := xs.foldl joinB 0
theorem val_succ (xs : List Int) (j : Nat) (hj : j < xs.length) : val (xs.take (j + 1)) = joinB (val (xs.take j)) (xs.getD j 0) := by
  rw [List.take_succ_eq_append_getElem hj, val, List.foldl_append]
  simp [val, List.getD, hj]
def okG (xs : List Int) (size : Int) : Bool := decide (0 ≤ size ∧ size ≤ 8 ∧ size ≤ xs.length)
def getN (xs : List Int) (size : Int) : Int := if okG xs size = true then val (xs.take size.toNat) else 0

theorem ret_get {n m : Int} {b c : Bool} (h : n = m) (k : b = c) : Ending.returned (.tuple #[.int .u64 n, .bool b]) = .returned (.tuple #[.int .u64 m, .bool c]) := by rw [h, k]

theorem get_any (ao : Option Addr) (la ca : Nat) (size : Int) (xs : List Int) (w : World) (ha : Tx w ao la ca xs) (_sa : la ≤ 140737488351232) (h1 : -9223372036854775808 ≤ size) (h2 : size ≤ 9223372036854775807) :
    Calls Try.prog 18 #[.slice ao la ca, .int .i64 size] w fun e w' => e = .returned (.tuple #[.int .u64 (getN xs size), .bool (okG xs size)]) ∧ w = w' := by
  have e1 := ha.len_eq
  have e2 := ha.le
  have e3 := ha.top
  by_cases hb : size < 0 ∨ 8 < size ∨ la < size
  · have hok : Hid (okG xs size = false) := by show _ = _; simp [okG]; omega
    have hn : Hid (getN xs size = 0) := by show _ = _; simp [getN, hok.out]
    go_enter Try.func18, Try.ntmps18
    go_wp2
    all_goals go_ret2
    all_goals exact ⟨ret_get hn.out.symm hok.out.symm, rfl⟩
  · obtain ⟨k, rfl⟩ : ∃ k : Nat, size = (k : Int) := ⟨size.toNat, by omega⟩
    have hok : Hid (okG xs k = true) := by show _ = _; simp [okG]; omega
    have hn : Hid (getN xs k = val (xs.take k)) := by show _ = _; simp [getN, hok.out]
    by_cases h0 : k = 0
    · subst h0
      go_enter Try.func18, Try.ntmps18
      go_wp2
      refine wp_loop_rounds 1 ?_
      rw [rounds_succ]
      go_wp2
      go_ret2
      exact ⟨ret_get (by rw [hn.out]; rfl) hok.out.symm, rfl⟩
    · obtain ⟨ab, af, rfl, hca⟩ := ha.head (by omega)
      go_enter Try.func18, Try.ntmps18
      go_wp2
      go_loop [6, 8, 25] (fun n _ i => ∃ (m : Int) (j : Nat), j ≤ k ∧ i = .int .i64 j ∧ n = .int .u64 m ∧ Hid (m = val (xs.take j))) (fun _ _ i => k - (intOf i).toNat)
      case atStart => exact ⟨0, 0, by omega, rfl, rfl, rfl⟩
      case round =>
        obtain ⟨m, j, hj, rfl, rfl, hm⟩ := hrel
        by_cases hk : j < k
        · have c1 := hca j (by omega)
          have r1 := ha.rngAt j
          have hs := val_succ xs j (by omega)
          generalize hx : xs.getD j 0 = x at c1 r1 hs
          go_wp2
          go_round
          case rel => exact ⟨joinB m x, j + 1, by omega, by go_num, rfl, by rw [hs, ← hm.out]; rfl⟩
          case measure => simp [intOf]; omega
        · have hjk : j = k := by omega
          go_wp2
          go_ret2
          exact ⟨ret_get (by rw [hn.out, hm.out, hjk]) hok.out.symm, rfl⟩

theorem refget_any (ao : Option Addr) (la ca : Nat) (size : Int) (xs : List Int) (w : World) (ha : Tx w ao la ca xs) (_sa : la ≤ 140737488351232) (h1 : -9223372036854775808 ≤ size) (h2 : size ≤ 9223372036854775807) :
    Calls Try.prog 19 #[.slice ao la ca, .int .i64 size] w fun e w' => e = .returned (.tuple #[.int .u64 (getN xs size), .bool (okG xs size)]) ∧ w = w' := by
  have e1 := ha.len_eq
  have e2 := ha.le
  have e3 := ha.top
  by_cases hb : size < 0 ∨ 8 < size ∨ la < size
  · have hok : Hid (okG xs size = false) := by show _ = _; simp [okG]; omega
    have hn : Hid (getN xs size = 0) := by show _ = _; simp [getN, hok.out]
    go_enter Try.func19, Try.ntmps19
    go_wp2
    all_goals go_ret2
    all_goals exact ⟨ret_get hn.out.symm hok.out.symm, rfl⟩
  · obtain ⟨k, rfl⟩ : ∃ k : Nat, size = (k : Int) := ⟨size.toNat, by omega⟩
    have hok : Hid (okG xs k = true) := by show _ = _; simp [okG]; omega
    have hn : Hid (getN xs k = val (xs.take k)) := by show _ = _; simp [getN, hok.out]
    by_cases h0 : k = 0
    · subst h0
      go_enter Try.func19, Try.ntmps19
      go_wp2
      refine wp_loop_rounds 1 ?_
      rw [rounds_succ]
      go_wp2
      go_ret2
      exact ⟨ret_get (by rw [hn.out]; rfl) hok.out.symm, rfl⟩
    · obtain ⟨ab, af, rfl, hca⟩ := ha.head (by omega)
      go_enter Try.func19, Try.ntmps19
      go_wp2
      go_loop [6, 7] (fun n i => ∃ (m : Int) (j : Nat), j ≤ k ∧ i = .int .i64 j ∧ n = .int .u64 m ∧ Hid (m = val (xs.take j))) (fun _ i => k - (intOf i).toNat)
      case atStart => exact ⟨0, 0, by omega, rfl, rfl, rfl⟩
      case round =>
        obtain ⟨m, j, hj, rfl, rfl, hm⟩ := hrel
        by_cases hk : j < k
        · have c1 := hca j (by omega)
          have r1 := ha.rngAt j
          have hs := val_succ xs j (by omega)
          generalize hx : xs.getD j 0 = x at c1 r1 hs
          go_wp2
          go_round
          case rel => exact ⟨joinB m x, j + 1, by omega, by go_num, rfl, by rw [hs, ← hm.out]; rfl⟩
          case measure => simp [intOf]; omega
        · have hjk : j = k := by omega
          go_wp2
          go_ret2
          exact ⟨ret_get (by rw [hn.out, hm.out, hjk]) hok.out.symm, rfl⟩

end Go.Proofs.Ytaojhaicbjnhiaa
