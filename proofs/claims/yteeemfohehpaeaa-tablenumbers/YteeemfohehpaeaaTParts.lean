/- The walk of table.parts. -/
import Derived.Test.YteeemfohehpaeaaTOpenM
import Derived.Test.YteeemfohehpaeaaPD
import Derived.Test.YteeemfohehpaeaaFWalksI
namespace Go.Proofs.Yteeemfohehpaeaa
set_option maxRecDepth 100000
open Go.RowKit

theorem partsT_neg {xs : List Int} : (xs.length < 8 → partsT xs = none) := fun h => by rw [partsT, if_pos h]
set_option maxHeartbeats 4000000 in
theorem tparts_any (ao : Option Addr) (la ca : Nat) (xs : List Int) (w : World) (ha : Tx w ao la ca xs) (sa : la ≤ 900000000) :
    Calls Try.prog 67 #[.slice ao la ca] w fun e w' =>
      ((∃ a b bb o1 l1 c1 o2 l2 c2, partsT xs = some (a, b) ∧ e = .returned (.tuple #[.slice (some ⟨bb, o1, none⟩) l1 c1, .slice (some ⟨bb, o2, none⟩) l2 c2, .bool true]) ∧ Tx w (some ⟨bb, o1, none⟩) l1 c1 a ∧ Tx w (some ⟨bb, o2, none⟩) l2 c2 b ∧ l1 + 8 ≤ c1 ∧ l2 + 8 ≤ c2 ∧ l1 ≤ 900000000 ∧ l2 ≤ 900000000) ∨ (partsT xs = none ∧ e = .returned (.tuple #[.slice none 0 0, .slice none 0 0, .bool false]))) ∧ Below w.heap.size w w' := by
  have hl := ha.len_eq
  have hle := ha.le
  have htop := ha.top
  unfold maxLen at htop
  by_cases h0 : la < 8
  · have hp : Hid (partsT xs = none) := by show _ = _; rw [partsT, if_pos (by omega)]
    have i1 : (la : Int) - 4 - 4 < 0 := by omega
    go_enter Try.func67, Try.ntmps67
    go_wp2
    go_ret3
    exact ⟨.inr ⟨hp.out, rfl⟩, Below.refl _ _⟩
  · obtain ⟨b, off, rfl, hc⟩ := ha.head (by omega)
    obtain ⟨f, hf⟩ : ∃ f, la = f + 8 := ⟨la - 8, by omega⟩
    obtain ⟨q, hq⟩ : ∃ q, q = f + 4 := ⟨_, rfl⟩
    have hsub : (la : Int) - 4 - 4 = (f : Int) := by omega
    have hadd : (f : Int) + 4 = (q : Int) := by omega
    have hf0 : ¬ (f : Int) < 0 := by omega
    have hql : q ≤ la := by omega
    have hfl : f ≤ la := by omega
    have t4 := ha.drop q (by omega)
    have s4 := t4.string
    have tf := ha.drop f (by omega)
    have hp : Hid (partsT xs = if xs.drop q ≠ mariL then none else if (f : Int) < getN (xs.drop f) 4 then none else if getN ((xs.drop (getN (xs.drop f) 4).toNat).take (f - (getN (xs.drop f) 4).toNat)) 2 < 1 ∨ ((xs.drop (getN (xs.drop f) 4).toNat).take (f - (getN (xs.drop f) 4).toNat)).length ≠ 2 + (getN ((xs.drop (getN (xs.drop f) 4).toNat).take (f - (getN (xs.drop f) 4).toNat)) 2).toNat * 4 then none else some (xs.take (getN (xs.drop f) 4).toNat, ((xs.drop (getN (xs.drop f) 4).toNat).take (f - (getN (xs.drop f) 4).toNat)).drop 2)) := by
      show partsT xs = _
      unfold partsT
      rw [if_neg (by omega), hl, show la - 4 = q by omega, show la - 8 = f by omega]
    have hf8 : f + 8 ≤ 900000000 := by omega
    have hfH : Hid (la = f + 8) := hf
    have hqH : Hid (q = f + 4) := hq
    clear hf hq
    have hget := get_any _ (la - f) (ca - f) 4 _ w tf (by omega) (by omega) (by omega)
    have hnn := getN_nn (xs.drop f) 4
    by_cases hm : xs.drop q = mariL
    · rw [hm] at s4
      have hms : (strOfNums mariL) = { data := #[109, 97, 114, 105] } := rfl
      rw [hms] at s4
      generalize getN (xs.drop f) 4 = G at hget hnn hp
      by_cases hG : (f : Int) < G
      · have hpn : Hid (partsT xs = none) := by show _ = _; rw [hp.out, if_neg (by simp [hm]), if_pos hG]
        have hwf : IntKind.u64.wrap (f : Int) = f := by rw [IntKind.wrap_u64]; omega
        clear hp
        go_enter Try.func67, Try.ntmps67
        go_wp2_with (go_at_call 68; with_reducible refine hget.mono ?_; rintro e V ⟨rfl, rfl⟩)
        go_ret3
        exact ⟨.inr ⟨hpn.out, rfl⟩, Below.refl _ _⟩
      · obtain ⟨g, rfl⟩ : ∃ g : Nat, G = (g : Int) := ⟨G.toNat, by omega⟩
        rw [Int.toNat_natCast] at hp
        have hgf : g ≤ f := by omega
        have ti : Tx w (some ⟨b, off + g, none⟩) (f - g) (ca - g) ((xs.drop g).take (f - g)) := (ha.drop g (by omega)).take (f - g) (by omega)
        have htk := ha.take g (by omega)
        have hget2 := get_any _ (f - g) (ca - g) 2 _ w ti (by omega) (by omega) (by omega)
        have hil := ti.len_eq
        have hwf : IntKind.u64.wrap (f : Int) = f := by rw [IntKind.wrap_u64]; omega
        generalize hidx : (xs.drop g).take (f - g) = I at ti hget2 hil hp
        have hC : 0 ≤ getN I 2 ∧ getN I 2 ≤ 65535 := by
          by_cases h2 : I.length < 2
          · have := (getN_short 2 I h2).2; rw [show ((2 : Nat) : Int) = 2 from rfl] at this; omega
          · rw [num2_get I ti.rng h2]; exact num2_rng ti.rng
        rw [hil] at hp
        obtain ⟨C, hCe⟩ : ∃ C : Nat, getN I 2 = (C : Int) := ⟨(getN I 2).toNat, by omega⟩
        rw [hCe] at hget2 hp hC
        rw [Int.toNat_natCast] at hp
        have hwc : IntKind.i64.wrap (C : Int) = C := by rw [IntKind.wrap_i64]; omega
        by_cases hbad : (C : Int) < 1 ∨ f - g ≠ 2 + C * 4
        · have hpn : Hid (partsT xs = none) := by show _ = _; rw [hp.out, if_neg (by simp [hm]), if_neg (by omega), if_pos hbad]
          clear hp
          by_cases hc1 : (C : Int) < 1
          · obtain rfl : C = 0 := by omega
            go_enter Try.func67, Try.ntmps67
            go_wp2_with (first
              | (go_at_call 68; with_reducible refine hget.mono ?_; rintro e V ⟨rfl, rfl⟩)
              | (go_at_call 68; with_reducible refine hget2.mono ?_; rintro e V ⟨rfl, rfl⟩))
            go_ret3
            exact ⟨.inr ⟨hpn.out, rfl⟩, Below.refl _ _⟩
          · have hne : ¬ ((f - g : Nat) : Int) = 2 + (C : Int) * 4 := by omega
            have hcd : decide ((C : Int) < 1) = false := decide_eq_false hc1
            have hc0 : ¬ C = 0 := by omega
            have hnb : (((f - g : Nat) : Int) == 2 + (C : Int) * 4) = false := by simp [hne]
            go_enter Try.func67, Try.ntmps67
            go_wp2_with (first
              | (go_at_call 68; with_reducible refine hget.mono ?_; rintro e V ⟨rfl, rfl⟩)
              | (go_at_call 68; with_reducible refine hget2.mono ?_; rintro e V ⟨rfl, rfl⟩))
            go_ret3
            exact ⟨.inr ⟨hpn.out, rfl⟩, Below.refl _ _⟩
        · have hps : Hid (partsT xs = some (xs.take g, I.drop 2)) := by show _ = _; rw [hp.out, if_neg (by simp [hm]), if_neg (by omega), if_neg hbad]
          clear hp
          have hc1 : ¬ (C : Int) < 1 := by omega
          have heq : ((f - g : Nat) : Int) = 2 + (C : Int) * 4 := by omega
          have heqH : Hid (((f - g : Nat) : Int) = 2 + (C : Int) * 4) := heq
          have ti2 := ti.drop 2 (by omega)
          have htkH : Hid (Tx w (some ⟨b, off, none⟩) g ca (xs.take g)) := htk
          go_enter Try.func67, Try.ntmps67
          go_wp2_with (first
            | (go_at_call 68; with_reducible refine hget.mono ?_; rintro e V ⟨rfl, rfl⟩)
            | (go_at_call 68; with_reducible refine hget2.mono ?_; rintro e V ⟨rfl, rfl⟩))
          have hg9 : (g : Int) ≤ la := by omega
          have hd2 : 2 ≤ f - g := by omega
          go_wp2_with fail
          go_region
          all_goals
            go_wp2
            go_ret3
            exact ⟨.inl ⟨_, _, _, _, _, _, _, _, _, hps.out, rfl, htkH.out, ti2, by have := hfH.out; omega, by have := hfH.out; omega, by omega, by omega⟩, (Below.refl _ _).drew⟩
    · have hpn : Hid (partsT xs = none) := by show _ = _; rw [hp.out, if_pos hm]
      have hne := str_ne t4.rng (by decide : ∀ n ∈ mariL, 0 ≤ n ∧ n ≤ 255) hm
      have hms : (strOfNums mariL) = { data := #[109, 97, 114, 105] } := rfl
      rw [hms] at hne
      generalize strOfNums (xs.drop q) = S at s4 hne
      have hne3 : ¬ S = { data := #[109, 97, 114, 105] } := fun h => hne (by rw [h])
      have hne4 : ¬ S.toList = [109, 97, 114, 105] := fun h => hne (by rw [h, ByteArray.toList_eq])
      have hne5 : (S.toList == [109, 97, 114, 105]) = false := by simp [hne4]
      have hne2 : (S.toList == ByteArray.toList { data := #[109, 97, 114, 105] }) = false := by simpa using hne
      clear hp
      go_enter Try.func67, Try.ntmps67
      go_wp2
      go_ret3
      exact ⟨.inr ⟨hpn.out, rfl⟩, Below.refl _ _⟩
theorem partsT_len {xs a b : List Int} (h : partsT xs = some (a, b)) : ∃ C, 1 ≤ C ∧ b.length = 4 * C := by
  unfold partsT at h
  split at h
  · cases h
  · split at h
    · cases h
    · split at h
      · cases h
      · simp only at h
        split at h
        · cases h
        · rename_i hx
          simp only [Option.some.injEq, Prod.mk.injEq] at h
          obtain ⟨rfl, rfl⟩ := h
          generalize List.take _ _ = I at hx ⊢
          refine ⟨(getN I 2).toNat, by omega, by rw [List.length_drop]; omega⟩

end Go.Proofs.Yteeemfohehpaeaa
