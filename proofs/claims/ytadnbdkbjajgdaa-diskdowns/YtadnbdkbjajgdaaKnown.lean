/- The walk of the statements' own 'known'. -/
import Derived.Test.YtadnbdkbjajgdaaLaw
import Derived.Lib.SmallJoins
namespace Go.Proofs.Ytadnbdkbjajgdaa
open Go.RowKit Go.Sort

theorem conv_xy (w : World) : (convert 31 31 (.slice (some ⟨w.heap.size, 0, none⟩) 2 2)).run Try.prog (w.alloc (.cells #[.int .u8 120, .int .u8 121] 5)) = .ok (.slice (some ⟨w.heap.size, 0, none⟩) 2 2) (w.alloc (.cells #[.int .u8 120, .int .u8 121] 5 (2, 3))) :=
  Lib.run_convert_bytes_const w 31 5 #[.int .u8 120, .int .u8 121] 2 2 Try.underlying31 Try.underlying5

/-- The disk of 'known', call by call. -/
def nA : ByteArray := ⟨#[97]⟩
def nNo : ByteArray := ⟨#[110, 111]⟩
def kn1 : Dm := { (⟨100, [], 0, false⟩ : Dm) with files := put [] ⟨nA, [], 0⟩ }
def kn2 : Dm := { kn1 with files := put kn1.files ⟨nA, [] ++ [120, 121], 0⟩ }

theorem rising_nil : Rising [] := List.Pairwise.nil
theorem kn1_get : get kn1.files nA = some ⟨nA, [], 0⟩ := by
  show get (put [] _) nA = _
  rw [get_put rising_nil]; simp
theorem kn1_rise : Rising kn1.files := rising_put rising_nil _
theorem kn1_used : used kn1.files = 0 := by show used (put [] _) = 0; rw [used_put]; simp [del, lo, hi, used]
theorem kn1_len : kn1.files.length ≤ 1000000 := by have := length_put rising_nil ⟨nA, [], 0⟩; show (put [] _).length ≤ _; simp at this; omega
theorem kn2_get (nm : ByteArray) : get kn2.files nm = if nA = nm then some ⟨nA, [120, 121], 0⟩ else none := by
  show get (put kn1.files _) nm = _
  rw [get_put kn1_rise]
  show _ = if nA = nm then _ else _
  by_cases h : nA = nm
  · simp [h]
  · rw [if_neg h, if_neg h]
    show get (put [] _) nm = _
    rw [get_put rising_nil]
    simp [h, get]
theorem kn2_len : kn2.files.length ≤ 1000000 := by
  have h1 := length_put rising_nil ⟨nA, [], 0⟩
  have h2 := length_put kn1_rise ⟨nA, [] ++ [120, 121], 0⟩
  show (put kn1.files _).length ≤ _
  have : kn1.files.length = (put [] ⟨nA, [], 0⟩).length := rfl
  simp at h1; omega
theorem kn3_get (nm : ByteArray) : get (kn2.crash 1).files nm = if nA = nm then some ⟨nA, [120], 1⟩ else none := by
  show get (kn2.files.map _) nm = _
  rw [get_map _ (fun f => f.crash 1) (fun f => rfl), kn2_get]
  by_cases h : nA = nm
  · simp [h, Fl.crash]
  · simp [h]
theorem nA_no : nA ≠ nNo := by decide

set_option maxHeartbeats 1000000 in
theorem known_any (w : World) : Calls Try.prog 14 #[] w fun e w' => e = .returned (.bool true) ∧ Below w.heap.size w w' := by
  have E1 : (⟨100, [], 0, false⟩ : Dm).create ⟨#[97]⟩ = (kn1, 0) := create_calm rfl rfl rfl
  have E2 : kn1.append ⟨#[97]⟩ [120, 121] = (kn2, 0) := append_calm rfl rfl kn1_get _ (by rw [kn1_used]; decide)
  have E4 : (kn2.crash 1).append ⟨#[110, 111]⟩ [] = (kn2.crash 1, 22) := append_none (by rw [show (⟨#[110, 111]⟩ : ByteArray) = nNo from rfl, kn3_get, if_neg nA_no]) _
  have g3 : get (kn2.crash 1).files ⟨#[97]⟩ = some ⟨nA, [120], 1⟩ := by rw [show (⟨#[97]⟩ : ByteArray) = nA from rfl, kn3_get, if_pos rfl]
  have E5 : (kn2.crash 1).rename ⟨#[97]⟩ ⟨#[97]⟩ = (_, 0) := rename_calm rfl rfl g3 rfl
  have hl3 : (kn2.crash 1).files.length ≤ 1000000 := by show (kn2.files.map _).length ≤ _; rw [List.length_map]; exact kn2_len
  have s120 : strOfNums [120] = ⟨#[120]⟩ := rfl
  have r3 : rd (kn2.crash 1).files ⟨#[97]⟩ = [120] := rd_some g3
  have q3 : (get (kn2.crash 1).files ⟨#[97]⟩).isSome = true := by rw [g3]; rfl
  have hx := fun w2 (h : Dl w.heap.size w2 w.heap.size kn1) => append_l h ⟨#[97]⟩ (some ⟨w2.heap.size, 0, none⟩) 2 2 [120, 121] _ ((Below.refl _ _).alloc (Nat.le_refl _) _) (tx_lit w2 #[.int .u8 120, .int .u8 121] (2, 3) [120, 121] 2 rfl rfl (by omega) (by simp)) (fun ad ha _ => by cases ha; exact .inr (Nat.le_refl _)) (by omega) kn2 0 E2 kn1_len
  have hl0 : (⟨100, [], 0, false⟩ : Dm).files.length ≤ 1000000 := by simp
  have hs1 : (⟨#[97]⟩ : ByteArray).size ≤ 9223372036854775807 := by decide
  have e1 : Hid ((⟨100, [], 0, false⟩ : Dm).create ⟨#[97]⟩ = (kn1, 0)) := E1
  have e4 : Hid ((kn2.crash 1).append ⟨#[110, 111]⟩ [] = (kn2.crash 1, 22)) := E4
  have e5 : Hid (∃ D, (kn2.crash 1).rename ⟨#[97]⟩ ⟨#[97]⟩ = (D, 0)) := ⟨_, E5⟩
  obtain ⟨K5, e5⟩ := e5
  have e5 : Hid ((kn2.crash 1).rename ⟨#[97]⟩ ⟨#[97]⟩ = (K5, 0)) := e5
  have R3 : Hid (rd (kn2.crash 1).files ⟨#[97]⟩ = [120] ∧ (get (kn2.crash 1).files ⟨#[97]⟩).isSome = true) := ⟨r3, q3⟩
  clear E1 E2 E4 E5 g3 r3 q3
  go_enter Try.func14, Try.ntmps14
  go_wp2_with (first
    | (go_at_call 9; with_reducible refine (new_l 100 100 rfl (by omega) w).mono ?_; rintro e w1 ⟨rfl, d1, b1⟩)
    | (go_at_call 17; with_reducible refine (create_l d1 ⟨#[97]⟩ kn1 0 e1.out hl0 hs1).mono ?_; rintro e w2 ⟨rfl, d2, b2⟩; have cv := conv_xy w2; have hx2 := hx w2 d2; clear hx)
    | (go_at_call 18; with_reducible refine hx2.mono ?_; rintro e w3 ⟨rfl, d3, b3⟩)
    | (go_at_call 21; with_reducible refine (crash_l d3 1 kn2_len (by omega) (by omega)).mono ?_; rintro e w4 ⟨rfl, d4, b4⟩)
    | (go_at_call 22; with_reducible refine (read_l d4 ⟨#[97]⟩ [120] true R3.out.1 R3.out.2 hl3).mono ?_; rintro e w5 ⟨bo, lb, cb, rfl, t5, d5, b5⟩; have g5 := t5.string; rw [s120] at g5)
    | (go_at_call 18; with_reducible refine (append_l d5 ⟨#[110, 111]⟩ none 0 0 [] w5 (Below.refl _ _) (Tx.nil _) (by simp) (by omega) (kn2.crash 1) 22 e4.out hl3).mono ?_; rintro e w6 ⟨rfl, d6, b6⟩)
    | (go_at_call 20; with_reducible refine (rename_l d6 ⟨#[97]⟩ ⟨#[97]⟩ K5 0 e5.out hl3 hs1).mono ?_; rintro e w7 ⟨rfl, d7, b7⟩))
  go_ret
  exact ⟨rfl, ((((((b1.trans b2).trans b3).trans b4).trans (b5.mono d4.size)).trans b6).trans b7)⟩

end Go.Proofs.Ytadnbdkbjajgdaa
