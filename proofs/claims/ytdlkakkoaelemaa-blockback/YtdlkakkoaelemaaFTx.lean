/- A slice of bytes that reads as a list of numbers, in whatever world: what the walks ask of a slice, and what carries it on. -/
import Derived.Test.YtdlkakkoaelemaaChecked
import Derived.Test.YtdlkakkoaelemaaFMath
import Derived.WalkKit
import Derived.WalkSpells
import Derived.WalkLawsBesides
import Derived.Deep.QuietTactic
import Derived.BigQuiet
import Derived.RowKit3
import Derived.Outline
import Derived.WalkSmall
import Derived.Laws.BytesArg
import Derived.Laws.CopyOwn
import Derived.Lib.QuietBelow
namespace Go.Proofs.Ytdlkakkoaelemaa
open Go.RowKit

theorem ret_int {k : IntKind} {a b : Int} (h : a = b) : Ending.returned (.int k a) = .returned (.int k b) := by rw [h]
theorem ret_bool {a b : Bool} (h : a = b) : Ending.returned (.bool a) = .returned (.bool b) := by rw [h]

/-- The slice (ao, len, cap) reads as xs in w. -/
structure Tx (w : World) (ao : Option Addr) (len cap : Nat) (xs : List Int) : Prop where
  len_eq : xs.length = len
  le : len ≤ cap
  top : cap ≤ maxLen
  bare : ao = none → len = 0 ∧ cap = 0
  cell : ∀ ad, ao = some ad → ∀ j, j < len → w.cell? (ad.add j) = some (.int .u8 (xs.getD j 0))
  rng : ∀ n ∈ xs, 0 ≤ n ∧ n ≤ 255

theorem Tx.later {w w' : World} {ao : Option Addr} {len cap : Nat} {xs : List Int} (h : Tx w ao len cap xs) (hb : Below w.heap.size w w') : Tx w' ao len cap xs :=
  ⟨h.len_eq, h.le, h.top, h.bare, fun ad ha j hj => cell_later hb (h.cell ad ha j hj), h.rng⟩

theorem Tx.nil (w : World) : Tx w none 0 0 [] := ⟨rfl, Nat.le_refl _, by unfold maxLen; omega, fun _ => ⟨rfl, rfl⟩, fun _ h => (by cases h), by simp⟩

theorem Tx.head {w : World} {ao : Option Addr} {len cap : Nat} {xs : List Int} (h : Tx w ao len cap xs) (h0 : 0 < len) :
    ∃ b off, ao = some ⟨b, off, none⟩ ∧ ∀ j, j < len → w.cell? ⟨b, off + j, none⟩ = some (.int .u8 (xs.getD j 0)) := by
  cases ao with
  | none => have := h.bare rfl; omega
  | some a =>
    obtain ⟨b, off, spot⟩ := a
    have hspot : spot = none := by simpa [Addr.add] using World.cell?_spot (h.cell _ rfl 0 h0)
    subst hspot
    exact ⟨b, off, rfl, fun j hj => by have := h.cell _ rfl j hj; rwa [Addr.add_lit] at this⟩

theorem Tx.rngAt {w : World} {ao : Option Addr} {len cap : Nat} {xs : List Int} (h : Tx w ao len cap xs) (j : Nat) : 0 ≤ xs.getD j 0 ∧ xs.getD j 0 ≤ 255 := by
  by_cases hj : j < xs.length
  · have e : xs.getD j 0 = xs[j] := by simp [List.getD, hj]
    rw [e]; exact h.rng _ (List.getElem_mem hj)
  · simp [List.getD, hj]

theorem Tx.take {w : World} {ao : Option Addr} {len cap : Nat} {xs : List Int} (h : Tx w ao len cap xs) (k : Nat) (hk : k ≤ len) : Tx w ao k cap (xs.take k) := by
  refine ⟨by have := h.len_eq; simp; omega, by have := h.le; omega, h.top, fun ha => ⟨by have := h.bare ha; omega, (h.bare ha).2⟩, fun ad ha j hj => ?_, fun n hn => h.rng n (List.mem_of_mem_take hn)⟩
  rw [h.cell ad ha j (by omega)]
  simp [List.getD, hj]

theorem Tx.string {w : World} {ao : Option Addr} {len cap : Nat} {xs : List Int} (h : Tx w ao len cap xs) :
    (convert 23 9 (.slice ao len cap)).run Try.prog w = .ok (.string (strOfNums xs)) w := by
  by_cases h0 : 0 < len
  · obtain ⟨b, off, rfl, hc⟩ := h.head h0
    exact run_convert_bytes_arg w 23 5 Try.underlying23 Try.underlying5 b off len cap xs h.len_eq (fun i hi => hc i hi) 9 Try.underlying9
  · obtain rfl : len = 0 := by omega
    have hx : xs = [] := List.eq_nil_of_length_eq_zero h.len_eq
    subst hx
    cases ao with
    | none =>
      have := run_convert_bytes_nil (P := Try.prog) w 23 5 Try.underlying23 Try.underlying5 0 cap 9 Try.underlying9
      rw [this]; rfl
    | some a =>
      rw [run_convert_bytes_string w 23 9 5 (some a) 0 cap Try.underlying23 Try.underlying5 Try.underlying9, run_bytesToString w a 0 cap [] (by simpa using run_loadCells_list (P := Try.prog) w a [] (by simp))]
      rfl

/-- A row of its own reads as its cells. -/
theorem Tx.own {w : World} {base : Nat} {v : Value} {n : Nat} {xs : List Int} (h : w.ownsRow base 5 1 v n (xs.map (Value.int .u8))) (hr : ∀ n ∈ xs, 0 ≤ n ∧ n ≤ 255) :
    ∃ ao cap, v = .slice ao n cap ∧ Tx w ao n cap xs := by
  obtain ⟨hl, h2⟩ := h
  simp at hl
  rcases h2 with ⟨rfl, rfl⟩ | ⟨g, cap, cur, rfl, hb, hg, hn, hm, hs, ht⟩
  · exact ⟨none, 0, rfl, ⟨hl, Nat.le_refl _, by unfold maxLen; omega, fun _ => ⟨rfl, rfl⟩, fun _ h => (by cases h), hr⟩⟩
  · refine ⟨_, cap, rfl, ⟨hl, hn, hm, fun h => (by cases h), fun ad ha j hj => ?_, hr⟩⟩
    cases ha
    rw [Addr.add_lit, cell_of_row w g _ cur 5 (0, 0) hg, Nat.zero_add]
    have : (xs.map (Value.int .u8))[j]? = cur[j]? := by rw [← ht]; simp [hj]
    rw [← this]
    simp [List.getD, show j < xs.length by omega]

end Go.Proofs.Ytdlkakkoaelemaa
