/- The walk of slices.Delete. -/
import Derived.Test.YtadnbdkbjajgdaaLawRow
namespace Go.Proofs.Ytadnbdkbjajgdaa
open Go.RowKit Go.Sort

/-- A row that is owned, as a block. -/
theorem Blk.of_own {w : World} {fb n cap : Nat} {xs : List Value} (h : w.ownsRow 0 69 3 (.slice (some ⟨fb, 0, none⟩) n cap) n xs) : ∃ L, Blk w fb L ∧ L.length = cap * 3 ∧ L.take (n * 3) = xs ∧ n ≤ cap ∧ cap ≤ maxLen := by
  rcases h.2 with ⟨h', _⟩ | ⟨g, c, cur, h', _, hg, hn, hm, hs, ht⟩
  · cases h'
  · simp only [Value.slice.injEq, Option.some.injEq, Addr.mk.injEq, and_true, true_and] at h'
    obtain ⟨rfl, rfl⟩ := h'
    exact ⟨cur.toList, by unfold Blk; rw [hg], by simpa using hs, ht, hn, hm⟩
theorem Blk.own {w : World} {fb n cap : Nat} {L : List Value} (h : Blk w fb L) (hl : L.length = cap * 3) (hn : n ≤ cap) (hm : cap ≤ maxLen) : w.ownsRow 0 69 3 (.slice (some ⟨fb, 0, none⟩) n cap) n (L.take (n * 3)) :=
  ⟨by simp; omega, .inr ⟨fb, cap, L.toArray, rfl, Nat.zero_le _, h, hn, hm, by simpa using hl, rfl⟩⟩

set_option maxHeartbeats 2000000 in
theorem delete_any (fb n cap i : Nat) (xs : List Value) (w : World) (hown : w.ownsRow 0 69 3 (.slice (some ⟨fb, 0, none⟩) n cap) n xs) (hi : i < n) (h1 : ∀ v ∈ xs, v.oneCell' = true) (hn : n ≤ 1000000) :
    Calls Try.prog 48 #[.slice (some ⟨fb, 0, none⟩) n cap, .int .i64 i, .int .i64 ((i : Int) + 1)] w fun e w' => e = .returned (.slice (some ⟨fb, 0, none⟩) (n - 1) cap) ∧ w'.ownsRow 0 69 3 (.slice (some ⟨fb, 0, none⟩) (n - 1) cap) (n - 1) (xs.take (i * 3) ++ xs.drop ((i + 1) * 3)) ∧ Off [fb] w w' := by
  have hxl := hown.1
  obtain ⟨L, hB, hL, hT, hc, hm⟩ := Blk.of_own hown
  unfold maxLen at hm
  obtain ⟨i0, hi0, hz0, hz1, hz2⟩ := info_parts Try.info69
  obtain ⟨news, hnews⟩ : ∃ news, Hid (news = xs.drop ((i + 1) * 3)) := ⟨_, rfl⟩
  have hnl : news.length = (n - (i + 1)) * 3 := by rw [hnews.out]; simp; omega
  obtain ⟨A, hA, hsrc⟩ : ∃ A : Addr, (if cap = i + 1 then some (⟨fb, 0, none⟩ : Addr) else some ⟨fb, (i + 1) * 3, none⟩) = some A ∧ Hid (∀ t u, news[t]? = some u → w.drew.cell? (A.add t) = some u) := by
    by_cases h : cap = i + 1
    · refine ⟨⟨fb, 0, none⟩, by simp [h], fun t u hu => ?_⟩
      have h0 : news.length = 0 := by rw [hnl]; omega
      rw [List.length_eq_zero_iff.1 h0] at hu
      simp at hu
    · refine ⟨⟨fb, (i + 1) * 3, none⟩, by simp [h], fun t u hu => ?_⟩
      rw [Addr.add_lit]
      refine hB.drew.cell _ u ?_
      have : (L.take (n * 3))[(i + 1) * 3 + t]? = some u := by rw [hT, ← List.getElem?_drop, ← hnews.out]; exact hu
      rw [List.getElem?_take] at this
      split at this
      · exact this
      · cases this
  have s1 : Hid (news.length = (n - (i + 1)) * 3) := hnl
  have s2 : Hid (∀ u ∈ news, u.oneCell' = true) := fun u hu => h1 u (List.mem_of_mem_drop (hnews.out ▸ hu))
  have s3 : Hid (∀ t, t < news.length → (w.drew.cell? ⟨fb, 0 + i * 3 + t, none⟩).isSome = true ∧ w.drew.frozen? ⟨fb, 0 + i * 3 + t, none⟩ = false) := fun t ht => ⟨hB.drew.there _ (by omega), hB.drew.free _⟩
  obtain ⟨W1, hW1⟩ : ∃ W1, Hid (W1 = w.drew.setCells fb (0 + i * 3) news) := ⟨_, rfl⟩
  have hB1 : Blk W1 fb (splice L (0 + i * 3) news) := by rw [hW1.out]; exact hB.drew.setCells _ _ (by omega)
  have hL1 : (splice L (0 + i * 3) news).length = cap * 3 := by rw [length_splice _ _ _ (by omega)]; exact hL
  have hcl := fun ty c => run_clear3 W1 ty fb ((n - 1) * 3) c (fun j hj => hB1.there _ (by omega)) (fun j hj => hB1.free _)
  have e1 : i + (n - (i + 1)) = n - 1 := by omega
  have e2 : n - (n - 1) = 1 := by omega
  have e3 : ¬ cap = n - 1 := by omega
  have b1 : (i : Int) ≤ (i : Int) + 1 := by omega
  have b2 : (i : Int) + 1 ≤ (n : Int) := by omega
  have b3 : ((i : Int) + 1).toNat = i + 1 := by omega
  have b4 : ¬ ((i : Int) = (i : Int) + 1) := by omega
  clear hown hxl
  have hTH : Hid (L.take (n * 3) = xs) := hT
  clear hT
  go_enter Try.func48, Try.ntmps48
  go_wp2
  have hic : i ≤ cap := by omega
  have hin : i + 1 ≤ n := by omega
  have hb5 : (0 : Int) ≤ (i : Int) + 1 := by omega
  have hroom : i + (n - (i + 1)) ≤ cap := by omega
  go_region_law (refine step_append_room rfl (.tmp 22) (.tmp 25) 59 rfl 69 i0 3 Try.underlying59 hi0 hz1 fb 0 i cap rfl A (n - (i + 1)) (cap - (i + 1)) news rfl s1.out hsrc.out s2.out hroom s3.out ?_; rw [← hW1.out])
  have hb6 : ((n - 1 : Nat) : Int) ≤ (n : Int) := by omega
  have hb7 : n - 1 ≤ n := by omega
  have hb8 : n ≤ cap := hc
  go_wp2
  go_ret
  have hfin : Blk (W1.setCells fb ((n - 1) * 3) fz) fb (splice (splice L (0 + i * 3) news) ((n - 1) * 3) fz) := hB1.setCells _ _ (by rw [hL1]; simp only [fz, List.length_cons, List.length_nil]; omega)
  have hown' := hfin.own (n := n - 1) (by rw [length_splice _ _ _ (by rw [hL1]; simp only [fz, List.length_cons, List.length_nil]; omega)]; exact hL1) (by omega) (by unfold maxLen; omega)
  refine ⟨rfl, ?_, ?_⟩
  · have hx : (splice (splice L (0 + i * 3) news) ((n - 1) * 3) fz).take ((n - 1) * 3) = xs.take (i * 3) ++ xs.drop ((i + 1) * 3) := by
      rw [splice, List.take_append_of_le_length (by rw [List.length_take, hL1]; omega), List.take_take, Nat.min_self, splice, ← List.append_assoc, List.take_append_of_le_length (by simp; omega), Nat.zero_add, ← hnews.out, List.take_of_length_le (by simp; omega), ← hTH.out, List.take_take, Nat.min_eq_left (by omega)]
    rw [← hx]; exact hown'
  · refine off_setCells (by simp) _ _ ?_
    rw [hW1.out]
    exact off_setCells (by simp) _ _ (Off.refl _ _).drew

end Go.Proofs.Ytadnbdkbjajgdaa
