/- The walks of octet.Get, the document's Get, Cut, Same and Within. -/
import Derived.Test.YtdlkakkoaelemaaFTx
namespace Go.Proofs.Ytdlkakkoaelemaa
open Go.RowKit

theorem below_drewN {B : Nat} {a w : World} (h : Below B a w) (n : Nat) : Below B a (w.drewN n) := ⟨h.os, h.tape, h.output, h.size, h.block⟩

theorem cut_any (ao : Option Addr) (la ca n : Nat) (xs : List Int) (w : World) (ha : Tx w ao la ca xs) (hn : n ≤ 1000000) :
    Calls Try.prog 12 #[.slice ao la ca, .int .i64 n] w fun e w' => ∃ l, e = .returned (.slice ao l ca) ∧ l ≤ n ∧ Tx w ao l ca (xs.take n) ∧ w' = w := by
  have e1 := ha.len_eq
  have e2 := ha.le
  have e3 := ha.top
  by_cases h : n < la
  · go_enter Try.func12, Try.ntmps12
    go_wp2
    go_ret
    exact ⟨n, rfl, by omega, ha.take n (by omega), rfl⟩
  · go_enter Try.func12, Try.ntmps12
    go_wp2
    go_ret
    exact ⟨la, rfl, by omega, by rw [List.take_of_length_le (by omega)]; exact ha, rfl⟩

/-- One byte more, as Go says it: n<<8 | c. -/
def joinB (n c : Int) : Int := bits .or .u64 (IntKind.u64.wrap (n * 256)) c

def val (xs : List Int) : Int := xs.foldl joinB 0

theorem val_succ (xs : List Int) (j : Nat) (hj : j < xs.length) : val (xs.take (j + 1)) = joinB (val (xs.take j)) (xs.getD j 0) := by
  rw [List.take_succ_eq_append_getElem hj, val, List.foldl_append]
  simp [val, List.getD, hj]

def okG (xs : List Int) (size : Int) : Bool := decide (0 ≤ size ∧ size ≤ 8 ∧ size ≤ xs.length)

def getN (xs : List Int) (size : Int) : Int := if okG xs size = true then val (xs.take size.toNat) else 0

theorem ret_get {n m : Int} {b c : Bool} (h : n = m) (k : b = c) : Ending.returned (.tuple #[.int .u64 n, .bool b]) = .returned (.tuple #[.int .u64 m, .bool c]) := by rw [h, k]

theorem get_any (ao : Option Addr) (la ca : Nat) (size : Int) (xs : List Int) (w : World) (ha : Tx w ao la ca xs) (_sa : la ≤ 140737488351232) (h1 : -9223372036854775808 ≤ size) (h2 : size ≤ 9223372036854775807) :
    Calls Try.prog 43 #[.slice ao la ca, .int .i64 size] w fun e w' => e = .returned (.tuple #[.int .u64 (getN xs size), .bool (okG xs size)]) ∧ w = w' := by
  have e1 := ha.len_eq
  have e2 := ha.le
  have e3 := ha.top
  by_cases hb : size < 0 ∨ 8 < size ∨ la < size
  · have hok : Hid (okG xs size = false) := by show _ = _; simp [okG]; omega
    have hn : Hid (getN xs size = 0) := by show _ = _; simp [getN, hok.out]
    go_enter Try.func43, Try.ntmps43
    go_wp2
    all_goals go_ret2
    all_goals exact ⟨ret_get hn.out.symm hok.out.symm, rfl⟩
  · obtain ⟨k, rfl⟩ : ∃ k : Nat, size = (k : Int) := ⟨size.toNat, by omega⟩
    have hok : Hid (okG xs k = true) := by show _ = _; simp [okG]; omega
    have hn : Hid (getN xs k = val (xs.take k)) := by show _ = _; simp [getN, hok.out]
    by_cases h0 : k = 0
    · subst h0
      go_enter Try.func43, Try.ntmps43
      go_wp2
      refine wp_loop_rounds 1 ?_
      rw [rounds_succ]
      go_wp2
      go_ret2
      exact ⟨ret_get (by rw [hn.out]; rfl) hok.out.symm, rfl⟩
    · obtain ⟨ab, af, rfl, hca⟩ := ha.head (by omega)
      go_enter Try.func43, Try.ntmps43
      go_wp2
      go_loop [6, 8, 25] (fun n _ i => ∃ (m : Int) (j : Nat), j ≤ k ∧ i = .int .i64 j ∧ n = .int .u64 m ∧ Hid (m = val (xs.take j))) (fun _ _ i => k - (intOf i).toNat)
      case atStart => exact ⟨0, 0, by omega, rfl, rfl, rfl⟩
      case round =>
        obtain ⟨m, j, hj, rfl, rfl, hm⟩ := hrel
        by_cases hk : j < k
        · have c1 := hca j (by omega)
          have r1 := ha.rngAt j
          have hs := val_succ xs j (by omega)
          generalize hx : xs.getD j 0 = x at c1 r1 hs
          go_wp2
          go_round
          case rel => exact ⟨joinB m x, j + 1, by omega, by go_num, rfl, by rw [hs, ← hm.out]; rfl⟩
          case measure => simp [intOf]; omega
        · have hjk : j = k := by omega
          go_wp2
          go_ret2
          exact ⟨ret_get (by rw [hn.out, hm.out, hjk]) hok.out.symm, rfl⟩

theorem refget_any (ao : Option Addr) (la ca : Nat) (size : Int) (xs : List Int) (w : World) (ha : Tx w ao la ca xs) (_sa : la ≤ 140737488351232) (h1 : -9223372036854775808 ≤ size) (h2 : size ≤ 9223372036854775807) :
    Calls Try.prog 38 #[.slice ao la ca, .int .i64 size] w fun e w' => e = .returned (.tuple #[.int .u64 (getN xs size), .bool (okG xs size)]) ∧ w = w' := by
  have e1 := ha.len_eq
  have e2 := ha.le
  have e3 := ha.top
  by_cases hb : size < 0 ∨ 8 < size ∨ la < size
  · have hok : Hid (okG xs size = false) := by show _ = _; simp [okG]; omega
    have hn : Hid (getN xs size = 0) := by show _ = _; simp [getN, hok.out]
    go_enter Try.func38, Try.ntmps38
    go_wp2
    all_goals go_ret2
    all_goals exact ⟨ret_get hn.out.symm hok.out.symm, rfl⟩
  · obtain ⟨k, rfl⟩ : ∃ k : Nat, size = (k : Int) := ⟨size.toNat, by omega⟩
    have hok : Hid (okG xs k = true) := by show _ = _; simp [okG]; omega
    have hn : Hid (getN xs k = val (xs.take k)) := by show _ = _; simp [getN, hok.out]
    by_cases h0 : k = 0
    · subst h0
      go_enter Try.func38, Try.ntmps38
      go_wp2
      refine wp_loop_rounds 1 ?_
      rw [rounds_succ]
      go_wp2
      go_ret2
      exact ⟨ret_get (by rw [hn.out]; rfl) hok.out.symm, rfl⟩
    · obtain ⟨ab, af, rfl, hca⟩ := ha.head (by omega)
      go_enter Try.func38, Try.ntmps38
      go_wp2
      go_loop [6, 7] (fun n i => ∃ (m : Int) (j : Nat), j ≤ k ∧ i = .int .i64 j ∧ n = .int .u64 m ∧ Hid (m = val (xs.take j))) (fun _ i => k - (intOf i).toNat)
      case atStart => exact ⟨0, 0, by omega, rfl, rfl, rfl⟩
      case round =>
        obtain ⟨m, j, hj, rfl, rfl, hm⟩ := hrel
        by_cases hk : j < k
        · have c1 := hca j (by omega)
          have r1 := ha.rngAt j
          have hs := val_succ xs j (by omega)
          generalize hx : xs.getD j 0 = x at c1 r1 hs
          go_wp2
          go_round
          case rel => exact ⟨joinB m x, j + 1, by omega, by go_num, rfl, by rw [hs, ← hm.out]; rfl⟩
          case measure => simp [intOf]; omega
        · have hjk : j = k := by omega
          go_wp2
          go_ret2
          exact ⟨ret_get (by rw [hn.out, hm.out, hjk]) hok.out.symm, rfl⟩

theorem tmod_rng (n b : Int) (hb : 0 < b) : -b < n.tmod b ∧ n.tmod b < b := by
  refine ⟨?_, Int.tmod_lt_of_pos n hb⟩
  have := Int.tmod_lt_of_pos (-n) hb
  rw [Int.neg_tmod] at this
  omega

/-- What Within answers. -/
def wfun (n lo hi : Int) : Int := if lo ≤ n ∧ n ≤ hi then n else lo + (if n.tmod (hi - lo + 1) < 0 then n.tmod (hi - lo + 1) + hi - lo + 1 else n.tmod (hi - lo + 1))

theorem wfun_rng (n lo hi : Int) (h : lo ≤ hi) : lo ≤ wfun n lo hi ∧ wfun n lo hi ≤ hi := by
  have t := tmod_rng n (hi - lo + 1) (by omega)
  unfold wfun
  split
  · assumption
  · split <;> omega

theorem within_eq (n lo hi : Int) (h1 : -9223372036854775808 ≤ n) (h2 : n ≤ 9223372036854775807) (l1 : -1000000 ≤ lo) (l2 : lo ≤ hi) (l3 : hi ≤ 1000000000) (w : World) :
    Calls Try.prog 13 #[.int .i64 n, .int .i64 lo, .int .i64 hi] w fun e w' => e = .returned (.int .i64 (wfun n lo hi)) ∧ w = w' := by
  have t := tmod_rng n (hi - lo + 1) (by omega)
  have hne : ¬ hi - lo + 1 = 0 := by omega
  have hne' : ((hi - lo + 1 : Int) == 0) = false := by simp; omega
  have hw : ∀ v, (v = wfun n lo hi) → Ending.returned (.int .i64 v) = .returned (.int .i64 (wfun n lo hi)) := fun v h => by rw [h]
  have hd : Hid (wfun n lo hi = if lo ≤ n ∧ n ≤ hi then n else lo + (if n.tmod (hi - lo + 1) < 0 then n.tmod (hi - lo + 1) + hi - lo + 1 else n.tmod (hi - lo + 1))) := rfl
  generalize wfun n lo hi = R at *
  go_enter Try.func13, Try.ntmps13
  go_wp2
  all_goals go_ret
  all_goals refine ⟨hw _ ?_, rfl⟩
  all_goals (rw [hd.out]; (repeat split) <;> omega)

end Go.Proofs.Ytdlkakkoaelemaa
