/- The walks of the statements' own file, of Head, of Same at texts. -/
import Derived.Test.YtadnbdkbjajgdaaLaw
namespace Go.Proofs.Ytadnbdkbjajgdaa
open Go.RowKit Go.Sort

/-- The first 40 bytes. -/
def headN (s : ByteArray) (n : Nat) : ByteArray := if n < s.size then s.extract 0 n else s

theorem head_any (s : ByteArray) (n : Nat) (N : Int) (hN : N = (n : Int)) (hn : n ≤ 1000) (_hs : s.size ≤ 9223372036854775807) (w : World) :
    Calls Try.prog 51 #[.string s, .int .i64 N] w fun e w' => e = .returned (.string (headN s n)) ∧ w = w' := by
  subst hN
  by_cases h : n < s.size
  · have e : Hid (headN s n = s.extract 0 n) := by show _ = _; simp [headN, h]
    have hi : (n : Int) < (s.size : Int) := by omega
    go_enter Try.func51, Try.ntmps51
    go_wp2
    go_ret
    rw [e.out]
    exact ⟨rfl, rfl⟩
  · have e : Hid (headN s n = s) := by show _ = _; simp [headN, h]
    have hi : ¬ (n : Int) < (s.size : Int) := by omega
    go_enter Try.func51, Try.ntmps51
    go_wp2
    go_ret
    rw [e.out]
    exact ⟨rfl, rfl⟩

/-- The name that a number and a text stand for. -/
def fname (n : Int) (s : ByteArray) : ByteArray :=
  if n = 0 then ⟨#[97]⟩ else if n = 1 then ⟨#[98]⟩ else if n = 2 then ⟨#[110, 101, 119]⟩ else if n = 3 then ⟨#[108, 105, 115, 116]⟩ else if n = 4 then ⟨#[116, 49]⟩ else headN s 40

theorem file_any (n : Int) (s : ByteArray) (_h1 : -9223372036854775808 ≤ n) (_h2 : n ≤ 9223372036854775807) (hs : s.size ≤ 9223372036854775807) (w : World) :
    Calls Try.prog 25 #[.int .i64 n, .string s] w fun e w' => e = .returned (.string (fname n s)) ∧ Below w.heap.size w w' := by
  by_cases hin : 0 ≤ n ∧ n < 5
  · have hc : n = 0 ∨ n = 1 ∨ n = 2 ∨ n = 3 ∨ n = 4 := by omega
    rcases hc with rfl | rfl | rfl | rfl | rfl <;>
    · go_enter Try.func25, Try.ntmps25
      go_wp2
      go_ret
      exact ⟨rfl, (Below.refl _ _).alloc (Nat.le_refl _) _⟩
  · have e : Hid (fname n s = headN s 40) := by show _ = _; unfold fname; rw [if_neg (by omega), if_neg (by omega), if_neg (by omega), if_neg (by omega), if_neg (by omega)]
    have hh := fun W => head_any s 40 40 rfl (by omega) hs W
    by_cases h0 : n < 0
    · go_enter Try.func25, Try.ntmps25
      go_wp2_with (go_at_call 51; with_reducible refine (hh _).mono ?_; rintro e w1 ⟨rfl, rfl⟩)
      go_ret
      rw [e.out]
      exact ⟨rfl, (Below.refl _ _).alloc (Nat.le_refl _) _⟩
    · have h5 : ¬ n < 5 := by omega
      go_enter Try.func25, Try.ntmps25
      go_wp2_with (go_at_call 51; with_reducible refine (hh _).mono ?_; rintro e w1 ⟨rfl, rfl⟩)
      go_ret
      rw [e.out]
      exact ⟨rfl, (Below.refl _ _).alloc (Nat.le_refl _) _⟩

theorem same_yes (ao bo : Option Addr) (n ca cb : Nat) (ss : List ByteArray) (w : World) (ha : Sx w ao n ca ss) (hb : Sx w bo n cb ss) (hn : n ≤ 1000000000) :
    Calls Try.prog 29 #[.slice ao n ca, .slice bo n cb] w fun e w' => e = .returned (.bool true) ∧ Below w.heap.size w w' := by
  by_cases h0 : 0 < n
  · obtain ⟨ab, af, rfl, hca⟩ := ha.head h0
    obtain ⟨bb, bf, rfl, hcb⟩ := hb.head h0
    have hl := ha.len_eq
    go_enter Try.func29, Try.ntmps29
    go_wp2
    go_loopw [5] (fun i wr => ∃ k : Nat, k ≤ n ∧ i = .int .i64 k ∧ Below w.heap.size w wr) (fun i _ => n - (intOf i).toNat)
    case atStart => exact ⟨0, by omega, rfl, Below.refl _ _⟩
    case round =>
      obtain ⟨k, hk, rfl, br⟩ := hrel
      by_cases hlt : k < n
      · have c1 := cell_later br (hca k _ (List.getElem?_eq_getElem (by omega)))
        have c2 := cell_later br (hcb k _ (List.getElem?_eq_getElem (by omega)))
        generalize ss[k]'(by omega) = s at c1 c2
        have hi : (k : Int) < (n : Int) := by omega
        have hs : (s.toList != s.toList) = false := by simp
        go_wp2
        go_quiet (fail)
        go_wp2
        go_roundw
        case rel => exact ⟨k + 1, by omega, by go_num, below_drewN br _⟩
        case measure => simp [intOf]; omega
      · go_wp2
        go_ret
        exact ⟨rfl, br⟩
  · obtain rfl : n = 0 := by omega
    go_enter Try.func29, Try.ntmps29
    go_wp2
    refine wp_loop_rounds 1 ?_
    rw [rounds_succ]
    go_wp2
    go_ret
    exact ⟨rfl, Below.refl _ _⟩

end Go.Proofs.Ytadnbdkbjajgdaa
