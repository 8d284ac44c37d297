/- The walk of OctetTells: numbers and texts are what the document says, for any. -/
import Derived.Test.YtaojhaicbjnhiaaLays
import Derived.Test.YtaojhaicbjnhiaaOrder
import Derived.Test.YtaojhaicbjnhiaaRoomy
import Derived.Test.YtaojhaicbjnhiaaBack
namespace Go.Proofs.Ytaojhaicbjnhiaa
open Go.RowKit

/-- An operation whose guard said yes runs as one that has none. -/
theorem wpList_unguard {P : Program} {ops : Array Oper} {Q : Exit → Act → World → Prop} {a : Act} {w : World} {rest : List Oper} {o : Oper}
    (hw : Region.wanted o (yielded ops a.tmps) = true) (h : wpList P ops Q ({ o with guard := none } :: rest) a w) : wpList P ops Q (o :: rest) a w := by
  have h0 : Region.wanted { o with guard := none } (yielded ops a.tmps) = true := by simp [Region.wanted]
  unfold wpList at h ⊢
  rw [if_pos h0] at h
  rw [if_pos hw]
  exact h

theorem full_head {w : World} {g N l ca : Nat} {ao : Option Addr} {xs : List Int} (hf : Tx w (some ⟨g, 0, none⟩) N N (xs ++ List.replicate 80 165)) (ha : Tx w ao l ca xs) (hN : N = l + 80) : Tx w (some ⟨g, 0, none⟩) l N xs := by
  have e1 := ha.len_eq
  have := hf.take l (by omega)
  rwa [List.take_append_of_le_length (by omega), List.take_of_length_le (by omega)] at this

theorem wi_le {lo k : Nat} (h : Wi lo k) : k ≤ 8 := h.2

theorem order_append (ao : Option Addr) (la ca : Nat) (xs : List Int) (w : World) (ha : Tx w ao la ca xs) (sa : la ≤ 900) (bo : Option Addr) (lb cb : Nat) (ys : List Int) (hb : Tx w bo lb cb ys) (sb : lb ≤ 1000) :
    Calls Try.prog 8 #[.slice bo lb cb, .slice ao la ca] w fun e w' => e = .returned (.bool true) ∧ Below w.heap.size w w' := order_any bo ao lb cb la ca ys xs w hb ha sb (by omega)

set_option maxHeartbeats 1600000 in
theorem tells_walk (ao : Option Addr) (la ca : Nat) (xs : List Int) (bo : Option Addr) (lb cb : Nat) (ys : List Int) (n size : Int) (n1 : 0 ≤ n) (n2 : n < 18446744073709551616) (h1 : -9223372036854775808 ≤ size) (h2 : size ≤ 9223372036854775807) (w : World) (ha : Tx w ao la ca xs) (hm : Tx w bo lb cb ys) :
    Calls Try.prog 4 #[.slice ao la ca, .slice bo lb cb, .int .u64 n, .int .i64 size] w fun e w' => e = .returned (.bool true) ∧ Below w.heap.size w w' := by
  go_enter Try.func4, Try.ntmps4
  go_wp2_with (first
    | (go_at_call 10; with_reducible refine (cut_at ao la ca 60 60 xs w rfl ha (by omega)).mono ?_; rintro e w0 ⟨l0, rfl, hl0, tA, rfl⟩)
    | (go_at_call 10; with_reducible refine (cut_at bo lb cb 60 60 ys w rfl hm (by omega)).mono ?_; rintro e w0 ⟨m0, rfl, hm0, tM, rfl⟩)
    | (go_at_call 11; with_reducible refine (roomy_any ao l0 ca (xs.take 60) w tA (by omega)).mono ?_; rintro e w1 ⟨g, N, rfl, hN, tF, b1⟩; have tA1 := tA.later b1; have tM1 := tM.later b1; have hN1 : N ≤ l0 + 80 := (Nat.le_of_eq hN.out); have hN2 : l0 + 80 ≤ N := (Nat.le_of_eq hN.out.symm); have tH := full_head tF tA1 hN.out)
    | (go_at_call 7; with_reducible refine (lays_any (some ⟨g, 0, none⟩) l0 N n size (xs.take 60) w1 tH (by omega) n1 n2 h1 h2).mono ?_; rintro e w2 ⟨rfl, b2⟩; have B2 := b1.trans (b2.mono b1.size); have tA2 := tA1.later b2; have tM2 := tM1.later b2; have tF2 := tF.later b2)
    | (go_at_call 12; with_reducible refine (within0_any size h1 h2 w2).mono ?_; rintro e w2' ⟨k, rfl, hk, rfl⟩; have k8 := wi_le hk)
    | (go_at_call 7; with_reducible refine (lays_any ao l0 ca n k (xs.take 60) w2 tA2 (by omega) n1 n2 (by omega) (by omega)).mono ?_; rintro e w3 ⟨rfl, b3⟩; have B3 := B2.trans (b3.mono B2.size); have tA3 := tA2.later b3; have tM3 := tM2.later b3; have tF3 := tF2.later b3)
    | (go_at_call 8; with_reducible refine (order_any ao bo l0 ca m0 cb (xs.take 60) (ys.take 60) w3 tA3 tM3 (by omega) (by omega)).mono ?_; rintro e w4 ⟨rfl, b4⟩; have B4 := B3.trans (b4.mono B3.size); have tA4 := tA3.later b4; have tF4 := tF3.later b4)
    | (with_reducible show wpList _ _ _ (⟨some 38, _, _, _, _, _⟩ :: _) _ _; refine wpList_unguard rfl ?_; refine wpList_append_bytes _ rfl _ _ rfl w4.heap.size (.slice (some ⟨w4.heap.size, 0, none⟩) 0 0) 0 [] rfl (own_empty w4) (by simp) ao l0 ca (xs.take 60) rfl (tA4.alloc _) (by omega) (by simp) ?_; intro a5 l5 c5 w5 hl5 hown5 htx5 b5; rw [List.nil_append] at hown5; have B5 := below_alloc B4 B4.size b5; have hl5' : l5 ≤ 60 := (by omega); clear hl5; have hs5 := (below_on b5).size)
    | (with_reducible show wpList _ _ _ (⟨some 40, _, _, _, _, _⟩ :: _) _ _; refine wpList_unguard rfl ?_; refine wpList_append_bytes _ rfl _ _ rfl w4.heap.size (.slice a5 l5 c5) l5 (xs.take 60) rfl (hown5.alloc _) tA.rng (some ⟨w5.heap.size, 0, none⟩) 1 1 [255] rfl (tx_one w5 255 (by omega)) (by omega) (by simp; omega) ?_; intro a6 l6 c6 w6 hl6 hown6 tB6 b6; have hl6' : l6 ≤ 61 := (by omega); clear hl6; have bb := ((below_on b5).alloc hs5 _).trans b6; have B6 := B4.trans (bb.mono B4.size); have tA6 := tA4.later bb; have tF6 := tF4.later bb)
    | (go_at_call 8; with_reducible refine (order_append ao l0 ca (xs.take 60) w6 tA6 (by omega) a6 l6 c6 _ tB6 (by omega)).mono ?_; rintro e w7 ⟨rfl, b7⟩; have B7 := B6.trans (b7.mono B6.size); have tA7 := tA6.later b7; have tF7 := tF6.later b7)
    | (go_at_call 13; with_reducible refine (intact_any g N ao l0 ca (xs.take 60) w7 hN tF7 tA7 (by omega)).mono ?_; rintro e w8 ⟨rfl, b8⟩; have B8 := B7.trans (b8.mono B7.size))
    | (go_at_call 9; with_reducible refine (known_any w8).mono ?_; rintro e w9 ⟨rfl, b9⟩))
  go_ret
  exact ⟨rfl, B8.trans (b9.mono B8.size)⟩

end Go.Proofs.Ytaojhaicbjnhiaa
