/- The walks of octet.Get, the document's Get, Cut, Same and Within. The walk of octet.Put. The walk of the document's Put. What a number's bytes read as: the number, as far as its bytes go. -/
import Derived.Test.YtgleblfkcdkaeaaDoorFRow
import Derived.Laws.BitsLemmas
import Derived.Laws.Bits64
namespace Go.Proofs.YtgleblfkcdkaeaaDoor

section
open Go.RowKit

theorem below_drewN {B : Nat} {a w : World} (h : Below B a w) (n : Nat) : Below B a (w.drewN n) := ⟨h.os, h.tape, h.output, h.size, h.block⟩

theorem cut_any (ao : Option Addr) (la ca n : Nat) (xs : List Int) (w : World) (ha : Tx w ao la ca xs) (hn : n ≤ 1000000) :
    Calls Tryd.prog 20 #[.slice ao la ca, .int .i64 n] w fun e w' => ∃ l, e = .returned (.slice ao l ca) ∧ l ≤ n ∧ Tx w ao l ca (xs.take n) ∧ w' = w := by
  have e1 := ha.len_eq
  have e2 := ha.le
  have e3 := ha.top
  by_cases h : n < la
  · go_enter Tryd.func20, Tryd.ntmps20
    go_wp2
    go_ret
    exact ⟨n, rfl, by omega, ha.take n (by omega), rfl⟩
  · go_enter Tryd.func20, Tryd.ntmps20
    go_wp2
    go_ret
    exact ⟨la, rfl, by omega, by rw [List.take_of_length_le (by omega)]; exact ha, rfl⟩

/-- One byte more, as Go says it: n<<8 | c. -/
def joinB (n c : Int) : Int := bits .or .u64 (IntKind.u64.wrap (n * 256)) c

def val (xs : List Int) : Int := xs.foldl joinB 0

theorem val_succ (xs : List Int) (j : Nat) (hj : j < xs.length) : val (xs.take (j + 1)) = joinB (val (xs.take j)) (xs.getD j 0) := by
  rw [List.take_succ_eq_append_getElem hj, val, List.foldl_append]
  simp [val, List.getD, hj]

def okG (xs : List Int) (size : Int) : Bool := decide (0 ≤ size ∧ size ≤ 8 ∧ size ≤ xs.length)

def getN (xs : List Int) (size : Int) : Int := if okG xs size = true then val (xs.take size.toNat) else 0

theorem ret_get {n m : Int} {b c : Bool} (h : n = m) (k : b = c) : Ending.returned (.tuple #[.int .u64 n, .bool b]) = .returned (.tuple #[.int .u64 m, .bool c]) := by rw [h, k]

theorem get_any (ao : Option Addr) (la ca : Nat) (size : Int) (xs : List Int) (w : World) (ha : Tx w ao la ca xs) (_sa : la ≤ 140737488351232) (h1 : -9223372036854775808 ≤ size) (h2 : size ≤ 9223372036854775807) :
    Calls Tryd.prog 49 #[.slice ao la ca, .int .i64 size] w fun e w' => e = .returned (.tuple #[.int .u64 (getN xs size), .bool (okG xs size)]) ∧ w = w' := by
  have e1 := ha.len_eq
  have e2 := ha.le
  have e3 := ha.top
  by_cases hb : size < 0 ∨ 8 < size ∨ la < size
  · have hok : Hid (okG xs size = false) := by show _ = _; simp [okG]; omega
    have hn : Hid (getN xs size = 0) := by show _ = _; simp [getN, hok.out]
    go_enter Tryd.func49, Tryd.ntmps49
    go_wp2
    all_goals go_ret2
    all_goals exact ⟨ret_get hn.out.symm hok.out.symm, rfl⟩
  · obtain ⟨k, rfl⟩ : ∃ k : Nat, size = (k : Int) := ⟨size.toNat, by omega⟩
    have hok : Hid (okG xs k = true) := by show _ = _; simp [okG]; omega
    have hn : Hid (getN xs k = val (xs.take k)) := by show _ = _; simp [getN, hok.out]
    by_cases h0 : k = 0
    · subst h0
      go_enter Tryd.func49, Tryd.ntmps49
      go_wp2
      refine wp_loop_rounds 1 ?_
      rw [rounds_succ]
      go_wp2
      go_ret2
      exact ⟨ret_get (by rw [hn.out]; rfl) hok.out.symm, rfl⟩
    · obtain ⟨ab, af, rfl, hca⟩ := ha.head (by omega)
      go_enter Tryd.func49, Tryd.ntmps49
      go_wp2
      go_loop [6, 8, 25] (fun n _ i => ∃ (m : Int) (j : Nat), j ≤ k ∧ i = .int .i64 j ∧ n = .int .u64 m ∧ Hid (m = val (xs.take j))) (fun _ _ i => k - (intOf i).toNat)
      case atStart => exact ⟨0, 0, by omega, rfl, rfl, rfl⟩
      case round =>
        obtain ⟨m, j, hj, rfl, rfl, hm⟩ := hrel
        by_cases hk : j < k
        · have c1 := hca j (by omega)
          have r1 := ha.rngAt j
          have hs := val_succ xs j (by omega)
          generalize hx : xs.getD j 0 = x at c1 r1 hs
          go_wp2
          go_round
          case rel => exact ⟨joinB m x, j + 1, by omega, by go_num, rfl, by rw [hs, ← hm.out]; rfl⟩
          case measure => simp [intOf]; omega
        · have hjk : j = k := by omega
          go_wp2
          go_ret2
          exact ⟨ret_get (by rw [hn.out, hm.out, hjk]) hok.out.symm, rfl⟩

theorem refget_any (ao : Option Addr) (la ca : Nat) (size : Int) (xs : List Int) (w : World) (ha : Tx w ao la ca xs) (_sa : la ≤ 140737488351232) (h1 : -9223372036854775808 ≤ size) (h2 : size ≤ 9223372036854775807) :
    Calls Tryd.prog 45 #[.slice ao la ca, .int .i64 size] w fun e w' => e = .returned (.tuple #[.int .u64 (getN xs size), .bool (okG xs size)]) ∧ w = w' := by
  have e1 := ha.len_eq
  have e2 := ha.le
  have e3 := ha.top
  by_cases hb : size < 0 ∨ 8 < size ∨ la < size
  · have hok : Hid (okG xs size = false) := by show _ = _; simp [okG]; omega
    have hn : Hid (getN xs size = 0) := by show _ = _; simp [getN, hok.out]
    go_enter Tryd.func45, Tryd.ntmps45
    go_wp2
    all_goals go_ret2
    all_goals exact ⟨ret_get hn.out.symm hok.out.symm, rfl⟩
  · obtain ⟨k, rfl⟩ : ∃ k : Nat, size = (k : Int) := ⟨size.toNat, by omega⟩
    have hok : Hid (okG xs k = true) := by show _ = _; simp [okG]; omega
    have hn : Hid (getN xs k = val (xs.take k)) := by show _ = _; simp [getN, hok.out]
    by_cases h0 : k = 0
    · subst h0
      go_enter Tryd.func45, Tryd.ntmps45
      go_wp2
      refine wp_loop_rounds 1 ?_
      rw [rounds_succ]
      go_wp2
      go_ret2
      exact ⟨ret_get (by rw [hn.out]; rfl) hok.out.symm, rfl⟩
    · obtain ⟨ab, af, rfl, hca⟩ := ha.head (by omega)
      go_enter Tryd.func45, Tryd.ntmps45
      go_wp2
      go_loop [6, 7] (fun n i => ∃ (m : Int) (j : Nat), j ≤ k ∧ i = .int .i64 j ∧ n = .int .u64 m ∧ Hid (m = val (xs.take j))) (fun _ i => k - (intOf i).toNat)
      case atStart => exact ⟨0, 0, by omega, rfl, rfl, rfl⟩
      case round =>
        obtain ⟨m, j, hj, rfl, rfl, hm⟩ := hrel
        by_cases hk : j < k
        · have c1 := hca j (by omega)
          have r1 := ha.rngAt j
          have hs := val_succ xs j (by omega)
          generalize hx : xs.getD j 0 = x at c1 r1 hs
          go_wp2
          go_round
          case rel => exact ⟨joinB m x, j + 1, by omega, by go_num, rfl, by rw [hs, ← hm.out]; rfl⟩
          case measure => simp [intOf]; omega
        · have hjk : j = k := by omega
          go_wp2
          go_ret2
          exact ⟨ret_get (by rw [hn.out, hm.out, hjk]) hok.out.symm, rfl⟩

theorem tmod_rng (n b : Int) (hb : 0 < b) : -b < n.tmod b ∧ n.tmod b < b := by
  refine ⟨?_, Int.tmod_lt_of_pos n hb⟩
  have := Int.tmod_lt_of_pos (-n) hb
  rw [Int.neg_tmod] at this
  omega

/-- What Within answers. -/
def wfun (n lo hi : Int) : Int := if lo ≤ n ∧ n ≤ hi then n else lo + (if n.tmod (hi - lo + 1) < 0 then n.tmod (hi - lo + 1) + hi - lo + 1 else n.tmod (hi - lo + 1))

theorem wfun_rng (n lo hi : Int) (h : lo ≤ hi) : lo ≤ wfun n lo hi ∧ wfun n lo hi ≤ hi := by
  have t := tmod_rng n (hi - lo + 1) (by omega)
  unfold wfun
  split
  · assumption
  · split <;> omega

theorem within_eq (n lo hi : Int) (h1 : -9223372036854775808 ≤ n) (h2 : n ≤ 9223372036854775807) (l1 : -1000000 ≤ lo) (l2 : lo ≤ hi) (l3 : hi ≤ 1000000000) (w : World) :
    Calls Tryd.prog 19 #[.int .i64 n, .int .i64 lo, .int .i64 hi] w fun e w' => e = .returned (.int .i64 (wfun n lo hi)) ∧ w = w' := by
  have t := tmod_rng n (hi - lo + 1) (by omega)
  have hne : ¬ hi - lo + 1 = 0 := by omega
  have hne' : ((hi - lo + 1 : Int) == 0) = false := by simp; omega
  have hw : ∀ v, (v = wfun n lo hi) → Ending.returned (.int .i64 v) = .returned (.int .i64 (wfun n lo hi)) := fun v h => by rw [h]
  have hd : Hid (wfun n lo hi = if lo ≤ n ∧ n ≤ hi then n else lo + (if n.tmod (hi - lo + 1) < 0 then n.tmod (hi - lo + 1) + hi - lo + 1 else n.tmod (hi - lo + 1))) := rfl
  generalize wfun n lo hi = R at *
  go_enter Tryd.func19, Tryd.ntmps19
  go_wp2
  all_goals go_ret
  all_goals refine ⟨hw _ ?_, rfl⟩
  all_goals (rw [hd.out]; (repeat split) <;> omega)
end

section
open Go.RowKit

theorem set_mid (xs tail : List Int) (r : Nat) (x : Int) (la : Nat) (h : xs.length = la) : (xs ++ List.replicate (r + 1) 0 ++ tail).set (la + r) x = xs ++ List.replicate r 0 ++ (x :: tail) := by
  subst h
  rw [List.append_assoc, List.set_append_right _ _ (by omega), Nat.add_sub_cancel_left, List.append_assoc, List.replicate_succ', List.append_assoc, List.set_append_right _ _ (by simp)]
  simp

/-- What holds at each round's head of Put's loop: q places stand yet to be written or are the text's own. -/
structure PutRel (w wr : World) (g la k : Nat) (xs : List Int) (n : Int) (q : Nat) (m : Int) : Prop where
  hq1 : la ≤ q
  hq2 : q ≤ la + k
  m1 : 0 ≤ m
  m2 : m < 18446744073709551616
  row : ∃ tail, low k n = low (q - la) m ++ tail ∧ Row wr g (xs ++ List.replicate (q - la) 0 ++ tail)
  below : Below w.heap.size w wr

theorem putRel_start {w wr : World} {g la k N : Nat} {xs : List Int} {n : Int} (hr : Row wr g (xs.take N ++ (List.replicate N 0).drop xs.length)) (hb : Below w.heap.size w wr) (hl : xs.length = la) (hN : N = la + k) (n1 : 0 ≤ n) (n2 : n < 18446744073709551616) :
    PutRel w wr g la k xs n N n := by
  subst hN
  refine ⟨by omega, by omega, n1, n2, ⟨[], ?_, ?_⟩, hb⟩
  · simp
  · rw [List.take_of_length_le (by omega), List.drop_replicate, hl, Nat.add_sub_cancel_left] at hr
    simpa using hr

theorem PutRel.step {w wr : World} {la k : Nat} {g : Nat} {xs : List Int} {n : Int} {p : Nat} {m : Int} (h : PutRel w wr g la k xs n (p + 1) m) (hl : xs.length = la) (hp : la ≤ p) (hg : w.heap.size ≤ g) :
    PutRel w (wr.setCell ⟨g, p, none⟩ (.int .u8 (m % 256))) g la k xs n p (m / 256) := by
  obtain ⟨tail, ht, hr⟩ := h.row
  refine ⟨hp, by have := h.hq2; omega, by have := h.m1; omega, by have := h.m1; have := h.m2; omega, ⟨m % 256 :: tail, ?_, ?_⟩, h.below.setCell hg _⟩
  · rw [ht, show p + 1 - la = (p - la) + 1 by omega, low_snoc]; simp
  · have := hr.set p (m % 256)
    rw [show p + 1 - la = (p - la) + 1 by omega] at this
    have e := set_mid xs tail (p - la) (m % 256) la hl
    rw [show la + (p - la) = p by omega] at e
    rwa [e] at this

theorem PutRel.cell {w wr : World} {la k : Nat} {g : Nat} {xs : List Int} {n : Int} {q : Nat} {m : Int} (h : PutRel w wr g la k xs n q m) (hl : xs.length = la) (p : Nat) (hp : p < la + k) :
    ∃ x, wr.cell? ⟨g, p, none⟩ = some (.int .u8 x) := by
  obtain ⟨tail, ht, hr⟩ := h.row
  have hlen : tail.length + (q - la) = k := by
    have := congrArg List.length ht
    rw [List.length_append, length_low, length_low] at this
    omega
  have := h.hq1
  exact ⟨_, hr.cell p (by simp [hl]; omega)⟩

theorem PutRel.free {w wr : World} {la k : Nat} {g : Nat} {xs : List Int} {n : Int} {q : Nat} {m : Int} (h : PutRel w wr g la k xs n q m) (p : Nat) : wr.frozen? ⟨g, p, none⟩ = false := by
  obtain ⟨tail, ht, hr⟩ := h.row
  exact hr.free p

theorem PutRel.done {w wr : World} {la k : Nat} {g : Nat} {xs : List Int} {n : Int} {q : Nat} {m : Int} (h : PutRel w wr g la k xs n q m) (hl : xs.length = la) (hq : q = la) (hs : la + k ≤ 1000000000) (hr : ∀ n ∈ xs, 0 ≤ n ∧ n ≤ 255) :
    Tx wr (some ⟨g, 0, none⟩) (la + k) (la + k) (xs ++ low k n) := by
  obtain ⟨tail, ht, hrow⟩ := h.row
  subst hq
  simp [low] at ht hrow
  subst ht
  refine hrow.tx (q + k) (by simp [hl, length_low]) hs (fun x hx => ?_)
  rcases List.mem_append.1 hx with hx | hx
  · exact hr x hx
  · exact low_rng n k x hx

theorem put_any (ao : Option Addr) (la ca : Nat) (n size : Int) (xs : List Int) (w : World) (ha : Tx w ao la ca xs) (sa : la ≤ 900000000) (n1 : 0 ≤ n) (n2 : n < 18446744073709551616)
    (h1 : -9223372036854775808 ≤ size) (h2 : size ≤ 9223372036854775807) :
    Calls Tryd.prog 48 #[.slice ao la ca, .int .u64 n, .int .i64 size] w fun e w' => ∃ bo lb cb, e = .returned (.slice bo lb cb) ∧ Tx w' bo lb cb (xs ++ low (clampN size) n) ∧ Below w.heap.size w w' := by
  have e1 := ha.len_eq
  have hk := clampN_cast size
  have hk8 := clampN_le size
  generalize clampN size = k at hk hk8
  obtain ⟨N, hN⟩ : ∃ N, Hid (N = la + k) := ⟨_, rfl⟩
  have hNo := hN.out
  have hN1 : N ≤ la + k := by omega
  have hN2 : la + k ≤ N := by omega
  clear hNo
  have hsz : (size < 0 ∧ k ≤ 0) ∨ (size = 0 ∧ k ≤ 0) ∨ (0 < size ∧ size ≤ 8 ∧ size = k) ∨ (8 < size ∧ 8 ≤ k) := by omega
  clear hk
  rcases hsz with ⟨s1, k0⟩ | ⟨rfl, k0⟩ | ⟨s1, s2, rfl⟩ | ⟨s1, k0⟩
  all_goals
    go_enter Tryd.func48, Tryd.ntmps48
    go_wp2_with (first | (at_make; refine wpList_make_bytes w rfl _ _ rfl _ _ _ _ N rfl rfl (by omega) (by omega) (by omega) ?_; intro w1 hrow1 hb1) | (with_reducible show wpList _ _ _ (⟨some 19, _, _, _, _, _⟩ :: _) _ _; refine wpList_copy_bytes w1 rfl _ _ rfl w.heap.size N _ rfl hrow1 (by simp) ao la ca xs rfl (ha.later hb1) w.heap.size w hb1 (Nat.le_refl _) ?_; intro w2 hrow2 hb2))
    go_loopw [1, 8] (fun n' i wr => ∃ (q : Nat) (m : Int), i = .int .i64 ((q : Int) - 1) ∧ n' = .int .u64 m ∧ PutRel w wr w.heap.size la k xs n q m) (fun _ i _ => (intOf i + 1).toNat)
    case atStart => exact ⟨N, n, rfl, rfl, putRel_start hrow2.out hb2 e1 hN.out n1 n2⟩
    case round =>
      obtain ⟨q, m, rfl, rfl, hput⟩ := hrel
      have q1 := hput.hq1
      have q2 := hput.hq2
      have m1 := hput.m1
      have m2 := hput.m2
      by_cases hq : la < q
      · obtain ⟨p, rfl⟩ : ∃ p, q = p + 1 := ⟨q - 1, by omega⟩
        have ei : ((p + 1 : Nat) : Int) - 1 = p := by omega
        rw [ei]
        obtain ⟨x, hcell⟩ := hput.cell e1 p (by omega)
        have hfree := hput.free p
        have hst := hput.step e1 (by omega) (Nat.le_refl _)
        first
          | (exfalso; omega)
          | (go_wp2
             go_roundw
             case rel => exact ⟨p, m / 256, rfl, rfl, hst⟩
             case measure => simp [intOf])
      · go_wp2
        go_ret
        exact ⟨_, _, _, rfl, by rw [hN.out]; exact hput.done e1 (by omega) (by omega) ha.rng, hput.below⟩
end

section
open Go.RowKit

theorem own_empty (w : World) : (w.alloc (.cells #[] 5)).ownsRow w.heap.size 5 1 (.slice (some ⟨w.heap.size, 0, none⟩) 0 0) 0 (([] : List Int).map (Value.int .u8)) :=
  World.ownsRow_made w #[] 0 (Nat.le_refl _) (by unfold maxLen; omega) rfl

theorem Tx.alloc {w : World} {ao : Option Addr} {len cap : Nat} {xs : List Int} (h : Tx w ao len cap xs) (o : Obj) : Tx (w.alloc o) ao len cap xs := h.later ((Below.refl _ _).alloc (Nat.le_refl _) o)

theorem own_head {w : World} {base n cap : Nat} {ao : Option Addr} {xs : List Value} (h : w.ownsRow base 5 1 (.slice ao n cap) n xs) (hn : 0 < n) : ∃ g, ao = some ⟨g, 0, none⟩ ∧ base ≤ g := by
  obtain ⟨_, ⟨h', h0⟩ | ⟨g, c, cur, h', hb, _⟩⟩ := h
  · omega
  · simp only [Value.slice.injEq] at h'
    exact ⟨g, h'.1, hb⟩

theorem tx_one (w : World) (x : Int) (h : 0 ≤ x ∧ x ≤ 255) : Tx (w.alloc (.cells #[.int .u8 x] 5)) (some ⟨w.heap.size, 0, none⟩) 1 1 [x] := by
  have hr : Row (w.alloc (.cells #[.int .u8 x] 5)) w.heap.size [x] := heap_alloc_new w _
  exact hr.tx 1 rfl (by omega) (by simpa using h)

theorem byte_rng (m : Int) : 0 ≤ m % 256 ∧ m % 256 ≤ 255 := by omega

theorem pow_byte (n : Int) (p : Nat) : n / 2 ^ (8 * p) % 256 = n / 256 ^ p % 256 := by rw [Int.pow_mul]; rfl

/-- What holds at each round's head: q bytes are yet to come. -/
structure RefPut (w wr : World) (k : Nat) (xs : List Int) (n : Int) (q : Nat) (ao : Option Addr) (l cap : Nat) (zs : List Int) : Prop where
  hq : q ≤ k
  own : wr.ownsRow w.heap.size 5 1 (.slice ao l cap) l (zs.map (Value.int .u8))
  rng : ∀ n ∈ zs, 0 ≤ n ∧ n ≤ 255
  eq : zs ++ low q n = xs ++ low k n
  below : Below w.heap.size w wr

theorem RefPut.tx {w wr : World} {k : Nat} {xs : List Int} {n : Int} {ao : Option Addr} {l cap : Nat} {zs : List Int} (h : RefPut w wr k xs n 0 ao l cap zs) : Tx wr ao l cap (xs ++ low k n) := by
  obtain ⟨ao2, cap2, e, ht⟩ := Tx.own h.own h.rng
  simp only [Value.slice.injEq, true_and] at e
  obtain ⟨rfl, rfl⟩ := e
  have := h.eq
  simp [low] at this
  rw [← this]; exact ht

theorem RefPut.step {w wr w' : World} {k : Nat} {xs : List Int} {n : Int} {p : Nat} {ao ao' : Option Addr} {l cap l' cap' : Nat} {zs : List Int} (h : RefPut w wr k xs n (p + 1) ao l cap zs) {x : Int} (hx : x = n / 256 ^ p % 256)
    (hown : w'.ownsRow w.heap.size 5 1 (.slice ao' l' cap') l' ((zs ++ [x]).map (Value.int .u8))) (hb : Below w.heap.size w w') : RefPut w w' k xs n p ao' l' cap' (zs ++ [x]) := by
  refine ⟨by have := h.hq; omega, hown, fun y hy => ?_, ?_, hb⟩
  · rcases List.mem_append.1 hy with hy | hy
    · exact h.rng y hy
    · simp at hy; omega
  · rw [← h.eq, List.append_assoc, hx]; rfl

theorem RefPut.len {w wr : World} {k q : Nat} {xs : List Int} {n : Int} {ao : Option Addr} {l cap : Nat} {zs : List Int} (h : RefPut w wr k xs n q ao l cap zs) : l + q = xs.length + k := by
  have h1 := congrArg List.length h.eq
  have h2 := h.own.1
  simp [length_low] at h1 h2
  omega

theorem refput_any (ao : Option Addr) (la ca : Nat) (n size : Int) (xs : List Int) (w : World) (ha : Tx w ao la ca xs) (sa : la ≤ 900000000) (_n1 : 0 ≤ n) (_n2 : n < 18446744073709551616)
    (h1 : -9223372036854775808 ≤ size) (h2 : size ≤ 9223372036854775807) :
    Calls Tryd.prog 31 #[.slice ao la ca, .int .u64 n, .int .i64 size] w fun e w' => ∃ bo lb cb, e = .returned (.slice bo lb cb) ∧ Tx w' bo lb cb (xs ++ low (clampN size) n) ∧ Below w.heap.size w w' := by
  have e1 := ha.len_eq
  have hk := clampN_cast size
  have hk8 := clampN_le size
  generalize clampN size = k at hk hk8
  have hsz : (size < 0 ∧ k ≤ 0) ∨ (size = 0 ∧ k ≤ 0) ∨ (0 < size ∧ size ≤ 8 ∧ size = k) ∨ (8 < size ∧ 8 ≤ k) := by omega
  clear hk
  rcases hsz with ⟨s1, k0⟩ | ⟨rfl, k0⟩ | ⟨s1, s2, rfl⟩ | ⟨s1, k0⟩
  all_goals
    go_enter Tryd.func31, Tryd.ntmps31
    go_wp2_with (with_reducible show wpList _ _ _ (⟨some 11, _, _, _, _, _⟩ :: _) _ _; (refine wpList_append_bytes _ rfl _ _ rfl w.heap.size (.slice (some ⟨w.heap.size, 0, none⟩) 0 0) 0 [] rfl (own_empty w) (by simp) ao la ca xs rfl (ha.alloc _) (by omega) (by simp) ?_; intro ao1 l1 cap1 w1 hl1 hown1 htx1 hb1; clear hl1))
    go_loopw [7, 8] (fun o i wr => ∃ (q : Nat) (ao' : Option Addr) (l' cap' : Nat) (zs : List Int), i = .int .i64 ((q : Int) - 1) ∧ o = .slice ao' l' cap' ∧ RefPut w wr k xs n q ao' l' cap' zs) (fun _ i _ => (intOf i + 1).toNat)
    case atStart =>
      refine ⟨k, ao1, l1, cap1, xs, by go_num, rfl, ⟨Nat.le_refl _, hown1, ha.rng, rfl, ((Below.refl w.heap.size w).alloc (Nat.le_refl _) _).trans hb1⟩⟩
    case round =>
      obtain ⟨q, ao', l', cap', zs, rfl, rfl, hput⟩ := hrel
      have q2 := hput.hq
      by_cases hq : 0 < q
      · obtain ⟨p, rfl⟩ : ∃ p, q = p + 1 := ⟨q - 1, by omega⟩
        have ei : ((p + 1 : Nat) : Int) - 1 = p := by omega
        rw [ei]
        first
          | (exfalso; omega)
          | (have hbs := hput.below.size
             have hlen := hput.len
             have hle : l' + 1 ≤ 1000000000 := by omega
             clear hlen
             go_wp2_with (with_reducible show wpList _ _ _ (⟨some 29, _, _, _, _, _⟩ :: _) _ _; refine wpList_append_bytes _ rfl _ _ rfl w.heap.size (.slice ao' l' cap') l' zs rfl (hput.own.alloc _) hput.rng (some ⟨wr.heap.size, 0, none⟩) 1 1 [n / 2 ^ (8 * p) % 256] rfl (tx_one wr _ (byte_rng _)) hle (by simp; omega) ?_; intro ao2 l2 cap2 w2 hl2 hown2 htx2 hb2; clear hl2)
             go_roundw
             case rel => exact ⟨p, ao2, l2, cap2, _, by go_num, rfl, hput.step (pow_byte n p) hown2 ((hput.below.alloc hbs _).trans hb2)⟩
             case measure => simp [intOf])
      · obtain rfl : q = 0 := by omega
        go_wp2
        go_ret
        exact ⟨_, _, _, rfl, hput.tx, hput.below⟩
end

section
open Go.RowKit

theorem joinB_eq (v c : Int) (hv : 0 ≤ v) (hv2 : v < 72057594037927936) (hc : 0 ≤ c) (hc2 : c < 256) : joinB v c = v * 256 + c := by
  have hw : IntKind.u64.wrap (v * 256) = v * 256 := by rw [IntKind.wrap_u64]; omega
  rw [joinB, hw]
  exact bits_join .u64 64 (by decide) (fun n h0 h1 => by rw [IntKind.wrap_u64]; omega) 8 (v * 256) c (by omega) (by omega) (by omega) hc (by omega) (by omega)

theorem mod_step (n P : Int) (hP : 0 < P) : n / 256 % P * 256 + n % 256 = n % (P * 256) := by
  have h1 := Int.emod_nonneg (n / 256) (show P ≠ 0 by omega)
  have h2 := Int.emod_lt_of_pos (n / 256) hP
  have h3 := Int.mul_ediv_add_emod (n / 256) P
  have h4 := Int.mul_ediv_add_emod n 256
  have h5 := Int.emod_nonneg n (show (256 : Int) ≠ 0 by decide)
  have h6 := Int.emod_lt_of_pos n (show (0 : Int) < 256 by decide)
  generalize n / 256 % P = b at *
  generalize n / 256 / P = a at *
  generalize n % 256 = r at *
  generalize n / 256 = q at *
  have e : n = (b * 256 + r) + P * 256 * a := by grind
  rw [e, Int.add_mul_emod_self_left, Int.emod_eq_of_lt (by omega) (by omega)]

theorem val_low : ∀ (k : Nat), k ≤ 8 → ∀ n : Int, val (low k n) = n % 256 ^ k
  | 0, _, n => by simp [low, val]
  | k + 1, hk, n => by
    have ih := val_low k (by omega) (n / 256)
    rw [low_snoc, val, List.foldl_append]
    show joinB (val (low k (n / 256))) (n % 256) = _
    have hp : (0 : Int) < 256 ^ k := Int.pow_pos (by decide)
    have hpk : (256 : Int) ^ k ≤ 72057594037927936 := by
      have := Int.ofNat_le.2 (Nat.pow_le_pow_right (show 256 > 0 by decide) (show k ≤ 7 by omega))
      simpa using this
    have h1 := Int.emod_nonneg (n / 256) (show (256 : Int) ^ k ≠ 0 by omega)
    have h2 := Int.emod_lt_of_pos (n / 256) hp
    rw [ih, joinB_eq _ _ h1 (by omega) (by omega) (by omega), Int.pow_succ]
    exact mod_step n _ hp

theorem getN_low (k : Nat) (n : Int) (hk : k ≤ 8) (ys : List Int) : okG (low k n ++ ys) k = true ∧ getN (low k n ++ ys) k = n % 256 ^ k := by
  have h : okG (low k n ++ ys) k = true := by simp [okG, length_low]; omega
  refine ⟨h, ?_⟩
  rw [getN, if_pos h, Int.toNat_natCast, List.take_append_of_le_length (by simp [length_low]), List.take_of_length_le (by simp [length_low]), val_low k hk]

theorem getN_short (k : Nat) (xs : List Int) (h : xs.length < k) : okG xs k = false ∧ getN xs k = 0 := by
  have h : okG xs k = false := by simp [okG]; omega
  exact ⟨h, by simp [getN, h]⟩
end

end Go.Proofs.YtgleblfkcdkaeaaDoor
