/- The walk of rat.whole. -/
import Derived.Test.YtcloepkaieifpaaDoorMath3
import Derived.Test.YtcloepkaieifpaaDoorTextA
namespace Go.Proofs.YtcloepkaieifpaaDoor
open Go.RowKit Go.Sort

theorem trim_any (s : ByteArray) (w : World) :
    Calls Tryd.prog 45 #[.string s, .string ⟨#[45]⟩] w fun e w' => ∃ D : ByteArray, Hid (D.data.toList = unsign s.data.toList) ∧ e = .returned (.string D) ∧ w' = w :=
  (Tryd.strings_TrimPrefix s ⟨#[45]⟩ w).mono fun _ _ ⟨he, hw⟩ => ⟨_, by show _ = _; simpa using trim_is s.data.toList, he, hw⟩

/-- How rat.whole ends. -/
def wholeE (l : List UInt8) : Ending := match wholeV 10 l with
  | some n => .returned (.int .i64 n)
  | none => .panicked [{ v := .iface 31 (.int .i64 12), recovered := false }]

theorem wholeE_none {l : List UInt8} (h : decV (unsign l) = none) : wholeE l = .panicked [{ v := .iface 31 (.int .i64 12), recovered := false }] := by
  have : wholeV 10 l = none := by unfold wholeV; rw [h]; split <;> rfl
  unfold wholeE; rw [this]
theorem wholeE_some {l : List UInt8} {v : Nat} (h : decV (unsign l) = some v) (h1 : ¬ (unsign l).length = 0) (h2 : ¬ 10 < (unsign l).length) (h3 : (unsign l).length < l.length) : wholeE l = .returned (.int .i64 (-(v : Int))) := by
  have : wholeV 10 l = some (-(v : Int)) := by
    unfold wholeV; rw [if_neg (by omega), h]
    exact congrArg some (if_pos h3)
  unfold wholeE; rw [this]
theorem wholeE_some' {l : List UInt8} {v : Nat} (h : decV (unsign l) = some v) (h1 : ¬ (unsign l).length = 0) (h2 : ¬ 10 < (unsign l).length) (h3 : ¬ (unsign l).length < l.length) : wholeE l = .returned (.int .i64 (v : Int)) := by
  have : wholeV 10 l = some (v : Int) := by
    unfold wholeV; rw [if_neg (by omega), h]
    exact congrArg some (if_neg h3)
  unfold wholeE; rw [this]
theorem take_snoc (s : ByteArray) (k : Nat) (h : k < s.size) : s.data.toList.take (k + 1) = s.data.toList.take k ++ [s[k]] := by
  rw [List.take_succ_eq_append_getElem (by simpa using h)]; rfl

set_option maxHeartbeats 800000 in
theorem whole_any (s : ByteArray) (w : World) (_hs : s.size ≤ maxLen) :
    Calls Tryd.prog 35 #[.string s] w fun e w' => e = wholeE s.data.toList ∧ w' = w := by
  have hs := _hs
  unfold maxLen at hs
  go_enter Tryd.func35, Tryd.ntmps35
  go_wp2_with fail
  refine (trim_any _ _).mono ?_
  rintro e w' ⟨D, hD, rfl, hw⟩
  rw [hw]
  clear hw w'
  have hL : (unsign s.data.toList).length = D.size := by rw [← hD.out]; simp
  have HL : Hid ((unsign s.data.toList).length = D.size) := hL
  clear hL
  have hle : D.size ≤ s.size := by rw [← HL.out]; unfold unsign; split <;> simp
  by_cases hz : D.size = 0
  · have he : wholeE s.data.toList = .panicked [{ v := .iface 31 (.int .i64 12), recovered := false }] := by
      have : wholeV 10 s.data.toList = none := by unfold wholeV; rw [if_pos (by rw [HL.out]; omega)]
      unfold wholeE; rw [this]
    have h1 : ((D.size : Int) == 0) = true := by simp [hz]
    clear hz
    go_wp2
    exact ⟨rfl, he.symm, rfl⟩
  by_cases hm : 10 < D.size
  · have he : wholeE s.data.toList = .panicked [{ v := .iface 31 (.int .i64 12), recovered := false }] := by
      have : wholeV 10 s.data.toList = none := by unfold wholeV; rw [if_pos (by rw [HL.out]; omega)]
      unfold wholeE; rw [this]
    have h1 : ((D.size : Int) == 0) = false := by rw [beq_eq_false_iff_ne]; omega
    have h2 : (10 : Int) < (D.size : Int) := by omega
    clear hz hm
    go_wp2
    exact ⟨rfl, he.symm, rfl⟩
  have h1 : ((D.size : Int) == 0) = false := by rw [beq_eq_false_iff_ne]; omega
  have h2 : (D.size : Int) ≤ 10 := by omega
  go_wp2
  go_loop [4, 19] (fun a i => ∃ k v : Nat, k ≤ D.size ∧ i = .int .i64 k ∧ Hid (decV (D.data.toList.take k) = some v) ∧ a = .int .i64 v) (fun _ i => D.size - (intOf i).toNat)
  case atStart => exact ⟨0, 0, Nat.zero_le _, rfl, rfl, rfl⟩
  case round =>
    obtain ⟨k, v, hk, rfl, hv, rfl⟩ := hrel
    have hvb := decV_le _ 10 (by simp; omega) v hv.out
    by_cases hlt : k < D.size
    · have hts := take_snoc D k hlt
      have bad : Hid (¬ (48 ≤ D[k].toNat ∧ D[k].toNat ≤ 57) → wholeE s.data.toList = .panicked [{ v := .iface 31 (.int .i64 12), recovered := false }]) := fun hc => by
        have n1 : decV (D.data.toList.take (k + 1)) = none := by rw [hts, decV_snoc, hv.out]; simp [decStep, hc]
        have n2 : decV D.data.toList = none := by
          rw [← List.take_append_drop (k + 1) D.data.toList]; exact decV_append_none _ _ n1
        exact wholeE_none (by rw [← hD.out]; exact n2)
      have good : Hid (48 ≤ D[k].toNat ∧ D[k].toNat ≤ 57 → decV (D.data.toList.take (k + 1)) = some (v * 10 + (D[k].toNat - 48))) := fun hc => by
        rw [hts, decV_snoc, hv.out]; simp [decStep, hc]
      clear hts
      go_wp2
      all_goals first
        | exact ⟨rfl, (bad.out (by omega)).symm, rfl⟩
        | (go_round
           case rel => exact ⟨k + 1, v * 10 + (D[k].toNat - 48), by omega, by go_num, good.out (by omega), by congr 1; omega⟩
           case measure => simp [intOf]; omega)
    · have hk' : k = D.size := by omega
      have hv' : decV (unsign s.data.toList) = some v := by
        have := hv.out
        rw [List.take_of_length_le (by simp; omega)] at this
        rw [← hD.out]; exact this
      by_cases hg : D.size < s.size
      · have he : wholeE s.data.toList = .returned (.int .i64 (-(v : Int))) := wholeE_some hv' (by rw [HL.out]; omega) (by rw [HL.out]; omega) (by rw [HL.out]; simp; omega)
        clear hk' hv' hv
        go_wp2
        go_ret
        exact ⟨rfl, rfl⟩
      · have he : wholeE s.data.toList = .returned (.int .i64 (v : Int)) := wholeE_some' hv' (by rw [HL.out]; omega) (by rw [HL.out]; omega) (by rw [HL.out]; simp; omega)
        clear hk' hv' hv
        go_wp2
        go_ret
        exact ⟨rfl, rfl⟩
end Go.Proofs.YtcloepkaieifpaaDoor
