/- The document's Encode answers what is one's own: its bytes may be turned. -/
import Derived.Test.YtgleblfkcdkaeaaDoorMEncs
import Derived.Test.YtgleblfkcdkaeaaDoorFWalksJ
import Derived.Laws.BitsLemmas
namespace Go.Proofs.YtgleblfkcdkaeaaDoor
set_option maxRecDepth 100000
open Go.RowKit Go.Sort

theorem Gr.head {B : Nat} {w : World} {ao : Option Addr} {n cap : Nat} {xs : List Int} (h : Gr B w ao n cap xs) (h0 : 0 < n) :
    ∃ g, ao = some ⟨g, 0, none⟩ ∧ B ≤ g ∧ (∀ j, j < n → w.cell? ⟨g, j, none⟩ = some (.int .u8 (xs.getD j 0))) ∧ (∀ j, w.frozen? ⟨g, j, none⟩ = false) ∧
      ∀ j v, 0 ≤ v ∧ v ≤ 255 → Gr B (w.setCell ⟨g, j, none⟩ (.int .u8 v)) (some ⟨g, 0, none⟩) n cap (xs.set j v) := by
  have t := h.tx
  rcases h.own.2 with ⟨h', _⟩ | ⟨g, cap', cur, h', hb, hg, hn, hm, hs, ht⟩
  · cases h'; omega
  · simp only [Value.slice.injEq] at h'
    obtain ⟨rfl, _, rfl⟩ := h'
    refine ⟨g, rfl, hb, fun j hj => ?_, fun j => frozen_of_row w g j _ 5 hg, fun j v hv => ⟨⟨by simp [h.len], .inr ⟨g, cap, _, rfl, hb, heap_setCell_same w g j _ 5 _ hg, hn, hm, by simpa using hs, ?_⟩⟩, fun x hx => ?_, by simpa [World.setCell] using h.hB⟩⟩
    · have := t.cell _ rfl j hj
      rwa [Addr.add_lit, Nat.zero_add] at this
    · rw [Array.toList_setIfInBounds, List.take_set, ht, List.map_set]
    · rcases List.mem_or_eq_of_mem_set hx with hx | rfl
      · exact h.rng x hx
      · exact hv

theorem xor_rng (a b : Int) : 0 ≤ bits .xor .u8 a b ∧ bits .xor .u8 a b ≤ 255 := by
  have h : bits .xor .u8 a b = IntKind.u8.wrap ((BitVec.ofInt IntKind.u8.bits a ^^^ BitVec.ofInt IntKind.u8.bits b).toNat : Int) := rfl
  rw [h, IntKind.wrap_u8]; omega

theorem Gr.weak {B B' : Nat} {w : World} {ao : Option Addr} {n cap : Nat} {xs : List Int} (h : Gr B w ao n cap xs) (hb : B' ≤ B) : Gr B' w ao n cap xs := by
  obtain ⟨⟨h1, h2⟩, h3, h4⟩ := h
  refine ⟨⟨h1, ?_⟩, h3, Nat.le_trans hb h4⟩
  rcases h2 with h | ⟨g, c, cur, e, k, r⟩
  · exact .inl h
  · exact .inr ⟨g, c, cur, e, Nat.le_trans hb k, r⟩
theorem oput_k (K : Int) (k : Nat) (hK : K = (k : Int)) (hk : k ≤ 8) (ao : Option Addr) (la ca : Nat) (n : Int) (xs : List Int) (w : World) (ha : Tx w ao la ca xs) (sa : xs.length ≤ 900000000) (n1 : 0 ≤ n) (n2 : n ≤ 16777215) :
    Calls Tryd.prog 31 #[.slice ao la ca, .int .u64 n, .int .i64 K] w fun e w' => ∃ bo lb cb, e = .returned (.slice bo lb cb) ∧ Gr w.heap.size w' bo lb cb (xs ++ low k n) ∧ Below w.heap.size w w' := by
  have := ha.len_eq
  have h := refput_own ao la ca n K xs w ha (by omega) n1 (by omega) (by omega) (by omega)
  rwa [show clampN K = k by unfold clampN; omega] at h

set_option maxHeartbeats 4000000 in
theorem refenc_own (ao : Option Addr) (la ca : Nat) (ts : List Int) (wal nxt : Int) (w : World) (h : Lx 1 RI w ao la ca ts) (hR : Man.Right ⟨ts, wal, nxt⟩) :
    Calls Tryd.prog 9 #[.slice ao la ca, .int .i64 wal, .int .i64 nxt] w fun e w' => ∃ bo lb cb, e = .returned (.slice bo lb cb) ∧ Gr w.heap.size w' bo lb cb (Man.enc ⟨ts, wal, nxt⟩) ∧ Below w.heap.size w w' := by
  obtain ⟨a1, a2, a3, a4, a5, _⟩ := hR
  simp only at a1 a2 a3 a4 a5
  have e1 := h.len_eq
  have hle := h.le
  have htop := h.top
  unfold maxLen at htop
  have hw1 : IntKind.u8.wrap (la : Int) = (la : Int) := by rw [IntKind.wrap_u8]; omega
  have hw2 := u64_self (n := wal) (by omega) (by omega)
  have hw3 := u64_self (n := nxt) (by omega) (by omega)
  have t0 : Tx (w.alloc (.cells #[.int .u8 la] 5)) (some ⟨w.heap.size, 0, none⟩) 1 1 (low 1 (la : Int)) := by
    have := tx_one w (la : Int) (by omega)
    rwa [low1, show (la : Int) % 256 = la by omega]
  have b0 : Below w.heap.size w (w.alloc (.cells #[.int .u8 la] 5)) := (Below.refl _ _).alloc (Nat.le_refl _) _
  go_enter Tryd.func9, Tryd.ntmps9
  go_wp2
  go_loopw [7, 8] (fun out i wr => ∃ (k : Nat) (bo : Option Addr) (lb cb : Nat), k ≤ la ∧ i = .int .i64 k ∧ out = .slice bo lb cb ∧ Tx wr bo lb cb (low 1 (la : Int) ++ (ts.take k).flatMap (low 3)) ∧ Below w.heap.size w wr) (fun _ i _ => la - (intOf i).toNat)
  case atStart => exact ⟨0, _, 1, 1, by omega, rfl, rfl, by simpa using t0, b0⟩
  case round =>
    obtain ⟨k, bo, lb, cb, hk, rfl, rfl, t, hbw⟩ := hrel
    by_cases hk2 : k < la
    · obtain ⟨b, off, rfl, hcc⟩ := h.headI (by omega)
      have hx : ts[k]? = some (ts[k]'(by omega)) := by simp
      obtain ⟨x0, r1, r2⟩ := hcc k _ hx
      have hr := a5 _ (List.getElem_mem (by omega : k < ts.length))
      generalize ts[k]'(by omega) = x at hx x0 r1 r2 hr
      have x0 := cell_later hbw x0
      have hX := flat3_succ hx
      have hwx := u64_self (n := x) hr.1 (by omega)
      have hl3 : ((ts.take k).flatMap (low 3)).length = 3 * k := by rw [flat_len, List.length_take]; omega
      have pk := rput_k 3 3 rfl (by omega) bo lb cb x _ wr t (by rw [List.length_append, length_low, hl3]; omega) hr.1 (by omega)
      clear hx hcc t0 hl3
      have hXX : Hid ((ts.take (k + 1)).flatMap (low 3) = (ts.take k).flatMap (low 3) ++ low 3 x) := hX
      clear hX
      go_wp2_with fail
      with_reducible refine pk.mono ?_
      rintro e V3 ⟨bo3, lb3, cb3, rfl, t3, hb3⟩
      go_wp2
      go_round
      case rel => exact ⟨k + 1, bo3, lb3, cb3, by omega, by go_num, rfl, by rw [hXX.out, ← List.append_assoc]; exact t3, below_trans hbw hb3⟩
      case measure => simp [intOf]; omega
    · have hkk : k = la := by omega
      have t' : Tx wr bo lb cb (low 1 (ts.length : Int) ++ ts.flatMap (low 3)) := by
        have := t
        rw [hkk, ← e1, List.take_length] at this
        exact this
      have hl3 : (ts.flatMap (low 3)).length = 3 * la := by rw [flat_len, e1]
      have p2 := rput_k 3 3 rfl (by omega) bo lb cb wal _ wr t' (by rw [List.length_append, length_low, hl3]; omega) (by omega) (by omega)
      clear t t0
      go_wp2_with fail
      with_reducible refine p2.mono ?_
      rintro e V3 ⟨bo3, lb3, cb3, rfl, t3, hb3⟩
      have p3 := oput_k 3 3 rfl (by omega) bo3 lb3 cb3 nxt _ V3 t3 (by rw [List.length_append, List.length_append, length_low, length_low, hl3]; omega) (by omega) (by omega)
      go_wp2_with fail
      with_reducible refine p3.mono ?_
      rintro e V4 ⟨bo4, lb4, cb4, rfl, t4, hb4⟩
      go_wp2
      go_ret
      exact ⟨bo4, lb4, cb4, rfl, t4.weak (below_trans hbw hb3).size, below_trans hbw (below_trans hb3 hb4)⟩
end Go.Proofs.YtgleblfkcdkaeaaDoor
