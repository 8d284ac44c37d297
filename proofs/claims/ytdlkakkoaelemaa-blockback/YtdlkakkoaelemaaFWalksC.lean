/- The walk of the document's Put. -/
import Derived.Test.YtdlkakkoaelemaaFRow
import Derived.Test.YtdlkakkoaelemaaFWalksA
namespace Go.Proofs.Ytdlkakkoaelemaa
open Go.RowKit

theorem own_empty (w : World) : (w.alloc (.cells #[] 5)).ownsRow w.heap.size 5 1 (.slice (some ⟨w.heap.size, 0, none⟩) 0 0) 0 (([] : List Int).map (Value.int .u8)) :=
  World.ownsRow_made w #[] 0 (Nat.le_refl _) (by unfold maxLen; omega) rfl

theorem Tx.alloc {w : World} {ao : Option Addr} {len cap : Nat} {xs : List Int} (h : Tx w ao len cap xs) (o : Obj) : Tx (w.alloc o) ao len cap xs := h.later ((Below.refl _ _).alloc (Nat.le_refl _) o)

theorem own_head {w : World} {base n cap : Nat} {ao : Option Addr} {xs : List Value} (h : w.ownsRow base 5 1 (.slice ao n cap) n xs) (hn : 0 < n) : ∃ g, ao = some ⟨g, 0, none⟩ ∧ base ≤ g := by
  obtain ⟨_, ⟨h', h0⟩ | ⟨g, c, cur, h', hb, _⟩⟩ := h
  · omega
  · simp only [Value.slice.injEq] at h'
    exact ⟨g, h'.1, hb⟩

theorem tx_one (w : World) (x : Int) (h : 0 ≤ x ∧ x ≤ 255) : Tx (w.alloc (.cells #[.int .u8 x] 5)) (some ⟨w.heap.size, 0, none⟩) 1 1 [x] := by
  have hr : Row (w.alloc (.cells #[.int .u8 x] 5)) w.heap.size [x] := heap_alloc_new w _
  exact hr.tx 1 rfl (by omega) (by simpa using h)

theorem byte_rng (m : Int) : 0 ≤ m % 256 ∧ m % 256 ≤ 255 := by omega

theorem pow_byte (n : Int) (p : Nat) : n / 2 ^ (8 * p) % 256 = n / 256 ^ p % 256 := by rw [Int.pow_mul]; rfl

/-- What holds at each round's head: q bytes are yet to come. -/
structure RefPut (w wr : World) (k : Nat) (xs : List Int) (n : Int) (q : Nat) (ao : Option Addr) (l cap : Nat) (zs : List Int) : Prop where
  hq : q ≤ k
  own : wr.ownsRow w.heap.size 5 1 (.slice ao l cap) l (zs.map (Value.int .u8))
  rng : ∀ n ∈ zs, 0 ≤ n ∧ n ≤ 255
  eq : zs ++ low q n = xs ++ low k n
  below : Below w.heap.size w wr

theorem RefPut.tx {w wr : World} {k : Nat} {xs : List Int} {n : Int} {ao : Option Addr} {l cap : Nat} {zs : List Int} (h : RefPut w wr k xs n 0 ao l cap zs) : Tx wr ao l cap (xs ++ low k n) := by
  obtain ⟨ao2, cap2, e, ht⟩ := Tx.own h.own h.rng
  simp only [Value.slice.injEq, true_and] at e
  obtain ⟨rfl, rfl⟩ := e
  have := h.eq
  simp [low] at this
  rw [← this]; exact ht

theorem RefPut.step {w wr w' : World} {k : Nat} {xs : List Int} {n : Int} {p : Nat} {ao ao' : Option Addr} {l cap l' cap' : Nat} {zs : List Int} (h : RefPut w wr k xs n (p + 1) ao l cap zs) {x : Int} (hx : x = n / 256 ^ p % 256)
    (hown : w'.ownsRow w.heap.size 5 1 (.slice ao' l' cap') l' ((zs ++ [x]).map (Value.int .u8))) (hb : Below w.heap.size w w') : RefPut w w' k xs n p ao' l' cap' (zs ++ [x]) := by
  refine ⟨by have := h.hq; omega, hown, fun y hy => ?_, ?_, hb⟩
  · rcases List.mem_append.1 hy with hy | hy
    · exact h.rng y hy
    · simp at hy; omega
  · rw [← h.eq, List.append_assoc, hx]; rfl

theorem RefPut.len {w wr : World} {k q : Nat} {xs : List Int} {n : Int} {ao : Option Addr} {l cap : Nat} {zs : List Int} (h : RefPut w wr k xs n q ao l cap zs) : l + q = xs.length + k := by
  have h1 := congrArg List.length h.eq
  have h2 := h.own.1
  simp [length_low] at h1 h2
  omega

theorem refput_any (ao : Option Addr) (la ca : Nat) (n size : Int) (xs : List Int) (w : World) (ha : Tx w ao la ca xs) (sa : la ≤ 900000000) (_n1 : 0 ≤ n) (_n2 : n < 18446744073709551616)
    (h1 : -9223372036854775808 ≤ size) (h2 : size ≤ 9223372036854775807) :
    Calls Try.prog 18 #[.slice ao la ca, .int .u64 n, .int .i64 size] w fun e w' => ∃ bo lb cb, e = .returned (.slice bo lb cb) ∧ Tx w' bo lb cb (xs ++ low (clampN size) n) ∧ Below w.heap.size w w' := by
  have e1 := ha.len_eq
  have hk := clampN_cast size
  have hk8 := clampN_le size
  generalize clampN size = k at hk hk8
  have hsz : (size < 0 ∧ k ≤ 0) ∨ (size = 0 ∧ k ≤ 0) ∨ (0 < size ∧ size ≤ 8 ∧ size = k) ∨ (8 < size ∧ 8 ≤ k) := by omega
  clear hk
  rcases hsz with ⟨s1, k0⟩ | ⟨rfl, k0⟩ | ⟨s1, s2, rfl⟩ | ⟨s1, k0⟩
  all_goals
    go_enter Try.func18, Try.ntmps18
    go_wp2_with (with_reducible show wpList _ _ _ (⟨some 11, _, _, _, _, _⟩ :: _) _ _; (refine wpList_append_bytes _ rfl _ _ rfl w.heap.size (.slice (some ⟨w.heap.size, 0, none⟩) 0 0) 0 [] rfl (own_empty w) (by simp) ao la ca xs rfl (ha.alloc _) (by omega) (by simp) ?_; intro ao1 l1 cap1 w1 hl1 hown1 htx1 hb1; clear hl1))
    go_loopw [7, 8] (fun o i wr => ∃ (q : Nat) (ao' : Option Addr) (l' cap' : Nat) (zs : List Int), i = .int .i64 ((q : Int) - 1) ∧ o = .slice ao' l' cap' ∧ RefPut w wr k xs n q ao' l' cap' zs) (fun _ i _ => (intOf i + 1).toNat)
    case atStart =>
      refine ⟨k, ao1, l1, cap1, xs, by go_num, rfl, ⟨Nat.le_refl _, hown1, ha.rng, rfl, ((Below.refl w.heap.size w).alloc (Nat.le_refl _) _).trans hb1⟩⟩
    case round =>
      obtain ⟨q, ao', l', cap', zs, rfl, rfl, hput⟩ := hrel
      have q2 := hput.hq
      by_cases hq : 0 < q
      · obtain ⟨p, rfl⟩ : ∃ p, q = p + 1 := ⟨q - 1, by omega⟩
        have ei : ((p + 1 : Nat) : Int) - 1 = p := by omega
        rw [ei]
        first
          | (exfalso; omega)
          | (have hbs := hput.below.size
             have hlen := hput.len
             have hle : l' + 1 ≤ 1000000000 := by omega
             clear hlen
             go_wp2_with (with_reducible show wpList _ _ _ (⟨some 29, _, _, _, _, _⟩ :: _) _ _; refine wpList_append_bytes _ rfl _ _ rfl w.heap.size (.slice ao' l' cap') l' zs rfl (hput.own.alloc _) hput.rng (some ⟨wr.heap.size, 0, none⟩) 1 1 [n / 2 ^ (8 * p) % 256] rfl (tx_one wr _ (byte_rng _)) hle (by simp; omega) ?_; intro ao2 l2 cap2 w2 hl2 hown2 htx2 hb2; clear hl2)
             go_roundw
             case rel => exact ⟨p, ao2, l2, cap2, _, by go_num, rfl, hput.step (pow_byte n p) hown2 ((hput.below.alloc hbs _).trans hb2)⟩
             case measure => simp [intOf])
      · obtain rfl : q = 0 := by omega
        go_wp2
        go_ret
        exact ⟨_, _, _, rfl, hput.tx, hput.below⟩

end Go.Proofs.Ytdlkakkoaelemaa
