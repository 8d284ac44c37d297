/- The walks of the document's Less and Shared, of marigraphbook.Same and Within. -/
import Derived.Test.YtdlkakkoaelemaaOWalksA
namespace Go.Proofs.Ytdlkakkoaelemaa
open Go.RowKit

theorem bytes_lt (x y : Int) (hx : 0 ≤ x ∧ x ≤ 255) (hy : 0 ≤ y ∧ y ≤ 255) : decide (UInt8.ofNat x.toNat < UInt8.ofNat y.toNat) = decide (x < y) := by
  have : (UInt8.ofNat x.toNat < UInt8.ofNat y.toNat) ↔ x < y := by
    rw [UInt8.lt_iff_toNat_lt]; simp only [UInt8.toNat_ofNat']; omega
  simp [this]
theorem bytes_eq (x y : Int) (hx : 0 ≤ x ∧ x ≤ 255) (hy : 0 ≤ y ∧ y ≤ 255) : (UInt8.ofNat x.toNat == UInt8.ofNat y.toNat) = (x == y) := by
  have : (UInt8.ofNat x.toNat = UInt8.ofNat y.toNat) ↔ x = y := by
    rw [← UInt8.toNat_inj]; simp only [UInt8.toNat_ofNat']; omega
  rw [Bool.eq_iff_iff]; simp [this]

theorem bytesLess_nums : ∀ (xs ys : List Int), (∀ n ∈ xs, 0 ≤ n ∧ n ≤ 255) → (∀ n ∈ ys, 0 ≤ n ∧ n ≤ 255) →
    Op.bytesLess (xs.map fun n => UInt8.ofNat n.toNat) (ys.map fun n => UInt8.ofNat n.toNat) = lessB xs ys
  | xs, [], _, _ => by cases xs <;> simp [Op.bytesLess, lessB]
  | [], y :: ys, _, _ => by simp [Op.bytesLess, lessB]
  | x :: xs, y :: ys, hx, hy => by
    have h := bytesLess_nums xs ys (fun n hn => hx n (by simp [hn])) (fun n hn => hy n (by simp [hn]))
    have a := bytes_lt x y (hx x (by simp)) (hy y (by simp))
    have b := bytes_eq x y (hx x (by simp)) (hy y (by simp))
    simp only [List.map_cons, Op.bytesLess, lessB, h, a, b]

theorem refshared_any (ao bo : Option Addr) (la ca lb cb : Nat) (xs ys : List Int) (w : World) (ha : Tx w ao la ca xs) (hb : Tx w bo lb cb ys) (sa : la ≤ 140737488351232) (sb : lb ≤ 140737488351232) :
    Calls Try.prog 19 #[.slice ao la ca, .slice bo lb cb] w fun e w' => e = .returned (.int .i64 (shared xs ys)) ∧ Below w.heap.size w w' := by
  have e1 := ha.len_eq
  have e2 := hb.len_eq
  by_cases h0 : 0 < la ∧ 0 < lb
  · obtain ⟨ab, af, rfl, hca⟩ := ha.head h0.1
    obtain ⟨bb, bf, rfl, hcb⟩ := hb.head h0.2
    go_enter Try.func19, Try.ntmps19
    go_wp2
    go_loopw [5] (fun i wr => ∃ k : Nat, k ≤ la ∧ k ≤ lb ∧ i = .int .i64 k ∧ Hid (∀ j, j < k → xs.getD j 0 = ys.getD j 0) ∧ Below w.heap.size w wr) (fun i _ => la - (intOf i).toNat)
    case atStart => exact ⟨0, by omega, by omega, rfl, fun j hj => (by omega), Below.refl _ _⟩
    case round =>
      obtain ⟨k, hka, hkb, rfl, heq, hbel⟩ := hrel
      by_cases hk : k < la ∧ k < lb
      · have k1 := hk.1
        have k2 := hk.2
        have c1 := cell_later hbel (hca k hk.1)
        have c2 := cell_later hbel (hcb k hk.2)
        have r1 := ha.rngAt k
        have r2 := hb.rngAt k
        generalize hx : xs.getD k 0 = x at c1 r1
        generalize hy : ys.getD k 0 = y at c2 r2
        by_cases hxy : x = y
        · have h1 : (x == y) = true := by simp [hxy]
          go_wp2
          go_quiet (fail)
          go_wp2
          go_roundw
          case rel =>
            refine ⟨k + 1, by omega, by omega, by go_num, fun j hj => ?_, below_drewN hbel _⟩
            by_cases hjk : j = k
            · subst hjk; rw [hx, hy, hxy]
            · exact heq j (by omega)
          case measure => simp [intOf]; omega
        · have h1 : (x == y) = false := by simp [hxy]
          go_wp2
          go_quiet (fail)
          go_wp2
          go_ret
          exact ⟨ret_int (by rw [shared_eq xs ys k (by omega) (by omega) heq (.inr (.inr (by rw [hx, hy]; exact hxy)))]), below_drewN hbel _⟩
      · by_cases k1 : k < la
        · have k2 : ¬ k < lb := by omega
          go_wp2
          go_quiet (fail)
          go_wp2
          go_ret
          exact ⟨ret_int (by rw [shared_eq xs ys k (by omega) (by omega) heq (by omega)]), below_drewN hbel _⟩
        · go_wp2
          go_quiet (fail)
          go_wp2
          go_ret
          exact ⟨ret_int (by rw [shared_eq xs ys k (by omega) (by omega) heq (by omega)]), below_drewN hbel _⟩
  · have hz : shared xs ys = 0 := by have := shared_le xs ys; omega
    go_enter Try.func19, Try.ntmps19
    go_wp2
    refine wp_loop_rounds 1 ?_
    rw [rounds_succ]
    by_cases k1 : 0 < la
    · have k2 : ¬ 0 < lb := by omega
      go_wp2
      go_quiet (fail)
      go_wp2
      go_ret
      exact ⟨ret_int (by rw [hz]; omega), below_drewN (Below.refl _ _) _⟩
    · go_wp2
      go_quiet (fail)
      go_wp2
      go_ret
      exact ⟨ret_int (by rw [hz]; omega), below_drewN (Below.refl _ _) _⟩

end Go.Proofs.Ytdlkakkoaelemaa
