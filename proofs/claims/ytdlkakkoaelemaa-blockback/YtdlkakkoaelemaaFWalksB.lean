/- The walk of octet.Put. -/
import Derived.Test.YtdlkakkoaelemaaFRow
import Derived.Test.YtdlkakkoaelemaaFWalksA
namespace Go.Proofs.Ytdlkakkoaelemaa
open Go.RowKit

theorem set_mid (xs tail : List Int) (r : Nat) (x : Int) (la : Nat) (h : xs.length = la) : (xs ++ List.replicate (r + 1) 0 ++ tail).set (la + r) x = xs ++ List.replicate r 0 ++ (x :: tail) := by
  subst h
  rw [List.append_assoc, List.set_append_right _ _ (by omega), Nat.add_sub_cancel_left, List.append_assoc, List.replicate_succ', List.append_assoc, List.set_append_right _ _ (by simp)]
  simp

/-- What holds at each round's head of Put's loop: q places stand yet to be written or are the text's own. -/
structure PutRel (w wr : World) (g la k : Nat) (xs : List Int) (n : Int) (q : Nat) (m : Int) : Prop where
  hq1 : la ≤ q
  hq2 : q ≤ la + k
  m1 : 0 ≤ m
  m2 : m < 18446744073709551616
  row : ∃ tail, low k n = low (q - la) m ++ tail ∧ Row wr g (xs ++ List.replicate (q - la) 0 ++ tail)
  below : Below w.heap.size w wr

theorem putRel_start {w wr : World} {g la k N : Nat} {xs : List Int} {n : Int} (hr : Row wr g (xs.take N ++ (List.replicate N 0).drop xs.length)) (hb : Below w.heap.size w wr) (hl : xs.length = la) (hN : N = la + k) (n1 : 0 ≤ n) (n2 : n < 18446744073709551616) :
    PutRel w wr g la k xs n N n := by
  subst hN
  refine ⟨by omega, by omega, n1, n2, ⟨[], ?_, ?_⟩, hb⟩
  · simp
  · rw [List.take_of_length_le (by omega), List.drop_replicate, hl, Nat.add_sub_cancel_left] at hr
    simpa using hr

theorem PutRel.step {w wr : World} {la k : Nat} {g : Nat} {xs : List Int} {n : Int} {p : Nat} {m : Int} (h : PutRel w wr g la k xs n (p + 1) m) (hl : xs.length = la) (hp : la ≤ p) (hg : w.heap.size ≤ g) :
    PutRel w (wr.setCell ⟨g, p, none⟩ (.int .u8 (m % 256))) g la k xs n p (m / 256) := by
  obtain ⟨tail, ht, hr⟩ := h.row
  refine ⟨hp, by have := h.hq2; omega, by have := h.m1; omega, by have := h.m1; have := h.m2; omega, ⟨m % 256 :: tail, ?_, ?_⟩, h.below.setCell hg _⟩
  · rw [ht, show p + 1 - la = (p - la) + 1 by omega, low_snoc]; simp
  · have := hr.set p (m % 256)
    rw [show p + 1 - la = (p - la) + 1 by omega] at this
    have e := set_mid xs tail (p - la) (m % 256) la hl
    rw [show la + (p - la) = p by omega] at e
    rwa [e] at this

theorem PutRel.cell {w wr : World} {la k : Nat} {g : Nat} {xs : List Int} {n : Int} {q : Nat} {m : Int} (h : PutRel w wr g la k xs n q m) (hl : xs.length = la) (p : Nat) (hp : p < la + k) :
    ∃ x, wr.cell? ⟨g, p, none⟩ = some (.int .u8 x) := by
  obtain ⟨tail, ht, hr⟩ := h.row
  have hlen : tail.length + (q - la) = k := by
    have := congrArg List.length ht
    rw [List.length_append, length_low, length_low] at this
    omega
  have := h.hq1
  exact ⟨_, hr.cell p (by simp [hl]; omega)⟩

theorem PutRel.free {w wr : World} {la k : Nat} {g : Nat} {xs : List Int} {n : Int} {q : Nat} {m : Int} (h : PutRel w wr g la k xs n q m) (p : Nat) : wr.frozen? ⟨g, p, none⟩ = false := by
  obtain ⟨tail, ht, hr⟩ := h.row
  exact hr.free p

theorem PutRel.done {w wr : World} {la k : Nat} {g : Nat} {xs : List Int} {n : Int} {q : Nat} {m : Int} (h : PutRel w wr g la k xs n q m) (hl : xs.length = la) (hq : q = la) (hs : la + k ≤ 1000000000) (hr : ∀ n ∈ xs, 0 ≤ n ∧ n ≤ 255) :
    Tx wr (some ⟨g, 0, none⟩) (la + k) (la + k) (xs ++ low k n) := by
  obtain ⟨tail, ht, hrow⟩ := h.row
  subst hq
  simp [low] at ht hrow
  subst ht
  refine hrow.tx (q + k) (by simp [hl, length_low]) hs (fun x hx => ?_)
  rcases List.mem_append.1 hx with hx | hx
  · exact hr x hx
  · exact low_rng n k x hx

theorem put_any (ao : Option Addr) (la ca : Nat) (n size : Int) (xs : List Int) (w : World) (ha : Tx w ao la ca xs) (sa : la ≤ 900000000) (n1 : 0 ≤ n) (n2 : n < 18446744073709551616)
    (h1 : -9223372036854775808 ≤ size) (h2 : size ≤ 9223372036854775807) :
    Calls Try.prog 34 #[.slice ao la ca, .int .u64 n, .int .i64 size] w fun e w' => ∃ bo lb cb, e = .returned (.slice bo lb cb) ∧ Tx w' bo lb cb (xs ++ low (clampN size) n) ∧ Below w.heap.size w w' := by
  have e1 := ha.len_eq
  have hk := clampN_cast size
  have hk8 := clampN_le size
  generalize clampN size = k at hk hk8
  obtain ⟨N, hN⟩ : ∃ N, Hid (N = la + k) := ⟨_, rfl⟩
  have hNo := hN.out
  have hN1 : N ≤ la + k := by omega
  have hN2 : la + k ≤ N := by omega
  clear hNo
  have hsz : (size < 0 ∧ k ≤ 0) ∨ (size = 0 ∧ k ≤ 0) ∨ (0 < size ∧ size ≤ 8 ∧ size = k) ∨ (8 < size ∧ 8 ≤ k) := by omega
  clear hk
  rcases hsz with ⟨s1, k0⟩ | ⟨rfl, k0⟩ | ⟨s1, s2, rfl⟩ | ⟨s1, k0⟩
  all_goals
    go_enter Try.func34, Try.ntmps34
    go_wp2_with (first | (at_make; refine wpList_make_bytes w rfl _ _ rfl _ _ _ _ N rfl rfl (by omega) (by omega) (by omega) ?_; intro w1 hrow1 hb1) | (with_reducible show wpList _ _ _ (⟨some 19, _, _, _, _, _⟩ :: _) _ _; refine wpList_copy_bytes w1 rfl _ _ rfl w.heap.size N _ rfl hrow1 (by simp) ao la ca xs rfl (ha.later hb1) w.heap.size w hb1 (Nat.le_refl _) ?_; intro w2 hrow2 hb2))
    go_loopw [1, 8] (fun n' i wr => ∃ (q : Nat) (m : Int), i = .int .i64 ((q : Int) - 1) ∧ n' = .int .u64 m ∧ PutRel w wr w.heap.size la k xs n q m) (fun _ i _ => (intOf i + 1).toNat)
    case atStart => exact ⟨N, n, rfl, rfl, putRel_start hrow2.out hb2 e1 hN.out n1 n2⟩
    case round =>
      obtain ⟨q, m, rfl, rfl, hput⟩ := hrel
      have q1 := hput.hq1
      have q2 := hput.hq2
      have m1 := hput.m1
      have m2 := hput.m2
      by_cases hq : la < q
      · obtain ⟨p, rfl⟩ : ∃ p, q = p + 1 := ⟨q - 1, by omega⟩
        have ei : ((p + 1 : Nat) : Int) - 1 = p := by omega
        rw [ei]
        obtain ⟨x, hcell⟩ := hput.cell e1 p (by omega)
        have hfree := hput.free p
        have hst := hput.step e1 (by omega) (Nat.le_refl _)
        first
          | (exfalso; omega)
          | (go_wp2
             go_roundw
             case rel => exact ⟨p, m / 256, rfl, rfl, hst⟩
             case measure => simp [intOf])
      · go_wp2
        go_ret
        exact ⟨_, _, _, rfl, by rw [hN.out]; exact hput.done e1 (by omega) (by omega) ha.rng, hput.below⟩

end Go.Proofs.Ytdlkakkoaelemaa
