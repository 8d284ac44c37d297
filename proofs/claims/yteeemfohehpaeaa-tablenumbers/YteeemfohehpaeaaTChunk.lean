/- The walks of slices.Chunk and its closure, at entries: an iterator over a slice, eight at a time. -/
import Derived.Test.YteeemfohehpaeaaPC
import Derived.RangeFuncNested
import Derived.RangeFuncBound
import Derived.RangeFuncCalls
import Derived.RangeFuncLeaves
import Derived.Shelf.Abstract
import Derived.Shelf.RegionOpen
import Derived.WalkKit
import Derived.OwnWalkIn
import Derived.TacticsInMore
import Derived.LoopNIn
import Derived.LoopIn
namespace Go.Proofs.Yteeemfohehpaeaa
set_option maxRecDepth 100000
open Go.RowKit Go.Shelf
attribute [local go_sem] Oper.semAt_some

/-- The number of a part that there is. -/
def clT (len i : Nat) : Nat := if 8 * i < len then i else 0
theorem clT_lt (len i : Nat) (h : 0 < len) : 8 * clT len i < len := by unfold clT; split <;> omega
theorem clT_id {len i : Nat} (h : 8 * i < len) : clT len i = i := if_pos h
/-- The part as a slice. -/
def partV (b off len i : Nat) : Value := .slice (some ⟨b, off + 8 * clT len i * 3, none⟩) (min 8 (len - 8 * clT len i)) (min 8 (len - 8 * clT len i))

set_option maxHeartbeats 2000000 in
theorem chunk1_in (F : Fence) (n : Nat) (h59 : F.fn 59) (hro : F.round = none) (hn : 1 ≤ n) (l B1 B2 b off len cap : Nat) (hl0 : 0 < len) (hle : len ≤ cap) (hcap : len ≤ 140737488351232) (Kp : World → World → Prop)
    (hKp : ∀ A B, Kp A B → ∀ p : Addr, p.block = B1 ∨ p.block = B2 → B.cell? p = A.cell? p) (J Jx : List Nat → World → Prop) (hdr : ∀ s V, J s V → J s V.drew)
    (hY : ∀ pre x W, J pre W → pre.length < (len + 7) / 8 → YieldAt F (n - 1) Try.prog l #[partV b off len x] W fun e W' =>
      (e = .returned (.bool true) ∧ J (pre ++ [x]) W' ∧ Kp W W') ∨ (e = .returned (.bool false) ∧ Jx (pre ++ [x]) W'))
    (W : World) (h1 : W.cell? ⟨B1, 0, none⟩ = some (.slice (some ⟨b, off, none⟩) len cap)) (h2 : W.cell? ⟨B2, 0, none⟩ = some (.int .i64 8)) (h0 : J [] W) :
    CallsIn F n Try.prog 59 #[.func (.yield l) #[] #[], .pointer (some ⟨B1, 0, none⟩), .pointer (some ⟨B2, 0, none⟩)] W fun e W' => (∃ v, e = .returned v) ∧
      ((∃ ys, ys = List.range ((len + 7) / 8) ∧ J ys W') ∨ (∃ pre, (∃ k, k ≤ (len + 7) / 8 ∧ pre = List.range k) ∧ Jx pre W')) := by
  refine callsIn_of_wp Try.func59 rfl h59 ?_ hro
  simp only [Try.ntmps59, List.size_toArray, List.length_cons, List.length_nil, Nat.reduceAdd, Nat.reduceSub, Array.replicate_succ, Array.replicate_zero, List.push_toArray, List.append_toArray, List.nil_append, List.cons_append]
  gi_wp2
  gi_loopw [4] (fun i wr => ∃ k q : Nat, k ≤ (len + 7) / 8 ∧ i = .int .i64 q ∧ Hid (q = 8 * k) ∧ J (List.range k) wr ∧ wr.cell? ⟨B1, 0, none⟩ = some (.slice (some ⟨b, off, none⟩) len cap) ∧ wr.cell? ⟨B2, 0, none⟩ = some (.int .i64 8))
    (fun i _ => len + 8 - (intOf i).toNat)
  case atStart => exact ⟨0, 0, by omega, rfl, rfl, h0, h1, h2⟩
  case round =>
    obtain ⟨k, q, hk, rfl, hq, hJs, c1, c2⟩ := hrel
    have hqo := hq.out
    by_cases hlt : q < len
    · have hJd := hdr _ _ hJs
      obtain ⟨fn, tmps, assign, body, hy, hR⟩ := hY _ k wr.drew hJd (by rw [List.length_range]; omega)
      have d1 : wr.drew.cell? ⟨B1, 0, none⟩ = some (.slice (some ⟨b, off, none⟩) len cap) := c1
      have d2 : wr.drew.cell? ⟨B2, 0, none⟩ = some (.int .i64 8) := c2
      by_cases hm : len - q < 8
      · have hm1 : ((len - q : Nat) : Int) < 8 := by omega
        have hv : partV b off len k = .slice (some ⟨b, off + q * 3, none⟩) (len - q) (len - q) := by
          unfold partV
          rw [clT_id (by omega), hqo]
          congr 1 <;> omega
        rw [hv] at hy
        clear hv hqo
        gi_wp2
        gi_region
        all_goals gi_wp2
        all_goals
          refine hR.mono ?_
          rintro e W3 (⟨rfl, hJ3, hk3⟩ | ⟨rfl, hJx3⟩)
          · have e1 := (hKp _ _ hk3 ⟨B1, 0, none⟩ (.inl rfl)).trans d1
            have e2 := (hKp _ _ hk3 ⟨B2, 0, none⟩ (.inr rfl)).trans d2
            gi_wp2
            go_roundw
            case rel => exact ⟨k + 1, q + 8, by have := hq.out; omega, by go_num, by show _ = _; have := hq.out; omega, by rw [List.range_succ]; exact hJ3, e1, e2⟩
            case measure => simp [intOf]; omega
          · gi_wp2
            refine bodyPost_ret (results_none rfl _ _ _) rfl ?_
            exact ⟨⟨_, rfl⟩, .inr ⟨_, ⟨k + 1, by have := hq.out; omega, List.range_succ.symm⟩, hJx3⟩⟩
      · have hm1 : (8 : Int) ≤ ((len - q : Nat) : Int) := by omega
        have hv : partV b off len k = .slice (some ⟨b, off + q * 3, none⟩) 8 8 := by
          unfold partV
          rw [clT_id (by omega), hqo]
          congr 1 <;> omega
        rw [hv] at hy
        clear hv hqo
        gi_wp2
        gi_region
        all_goals gi_wp2
        all_goals
          refine hR.mono ?_
          rintro e W3 (⟨rfl, hJ3, hk3⟩ | ⟨rfl, hJx3⟩)
          · have e1 := (hKp _ _ hk3 ⟨B1, 0, none⟩ (.inl rfl)).trans d1
            have e2 := (hKp _ _ hk3 ⟨B2, 0, none⟩ (.inr rfl)).trans d2
            gi_wp2
            go_roundw
            case rel => exact ⟨k + 1, q + 8, by have := hq.out; omega, by go_num, by show _ = _; have := hq.out; omega, by rw [List.range_succ]; exact hJ3, e1, e2⟩
            case measure => simp [intOf]; omega
          · gi_wp2
            refine bodyPost_ret (results_none rfl _ _ _) rfl ?_
            exact ⟨⟨_, rfl⟩, .inr ⟨_, ⟨k + 1, by have := hq.out; omega, List.range_succ.symm⟩, hJx3⟩⟩
    · have hkn : k = (len + 7) / 8 := by omega
      subst hkn
      clear hqo
      gi_wp2
      go_end0
      exact ⟨⟨_, rfl⟩, .inl ⟨_, rfl, hJs⟩⟩

/-- slices.Chunk(l, 8): the slice and the number are boxed; the function value has captured both boxes. -/
theorem chunk_any (ao : Option Addr) (len cap : Nat) (w : World) :
    Calls Try.prog 34 #[.slice ao len cap, .int .i64 8] w fun e w' => e = .returned (.func (.func 59) #[] #[.pointer (some ⟨w.heap.size, 0, none⟩), .pointer (some ⟨w.heap.size + 1, 0, none⟩)]) ∧ w' = (w.alloc (.cells #[.slice ao len cap] 22)).alloc (.cells #[.int .i64 8] 3) := by
  go_enter Try.func34, Try.ntmps34
  go_wp2
  go_ret
  exact ⟨rfl, rfl⟩

theorem chunk_stops (F : Fence) (n : Nat) (h59 : F.fn 59) (hro : F.round = none) (hn : 1 ≤ n) (B1 B2 b off len cap : Nat) (hl0 : 0 < len) (hle : len ≤ cap) (hcap : len ≤ 140737488351232) (Kp : World → World → Prop)
    (hKp : ∀ A B, Kp A B → ∀ p : Addr, p.block = B1 ∨ p.block = B2 → B.cell? p = A.cell? p)
    (w : World) (h1 : w.cell? ⟨B1, 0, none⟩ = some (.slice (some ⟨b, off, none⟩) len cap)) (h2 : w.cell? ⟨B2, 0, none⟩ = some (.int .i64 8)) :
    SeqStopsK F n Try.prog 59 #[.pointer (some ⟨B1, 0, none⟩), .pointer (some ⟨B2, 0, none⟩)] (fun i : Nat => #[partV b off len i]) Kp (fun ys => ys = List.range ((len + 7) / 8)) (fun pre => ∃ k, k ≤ (len + 7) / 8 ∧ pre = List.range k) ((len + 7) / 8) w := fun l J Jx W hW hJ _ hY h0 =>
  chunk1_in F n h59 hro hn l B1 B2 b off len cap hl0 hle hcap Kp hKp J Jx (fun s V hs => hJ s V V.drew none hs ⟨rfl, rfl, rfl, Nat.le_refl _, fun _ _ _ => rfl⟩ (fun r e => by cases e)) hY W (cell_later hW h1) (cell_later hW h2) h0

end Go.Proofs.Yteeemfohehpaeaa
