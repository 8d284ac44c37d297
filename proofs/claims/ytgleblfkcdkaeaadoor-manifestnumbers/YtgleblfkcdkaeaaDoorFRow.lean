/- A slice of bytes that reads as a list of numbers, in whatever world: what the walks ask of a slice, and what carries it on. A row of bytes that the call itself has made: what make, copy, append and a store do to it. -/
import Derived.Test.YtgleblfkcdkaeaaDoorChecked
import Derived.Test.YtgleblfkcdkaeaaDoorFMod2
import Derived.WalkKit
import Derived.WalkSpells
import Derived.WalkLawsBesides
import Derived.Deep.QuietTactic
import Derived.BigQuiet
import Derived.RowKit3
import Derived.Outline
import Derived.WalkSmall
import Derived.Laws.BytesArg
import Derived.Laws.CopyOwn
import Derived.Lib.QuietBelow
import Derived.Laws.AppendOwnNone
namespace Go.Proofs.YtgleblfkcdkaeaaDoor

section
open Go.RowKit

theorem ret_int {k : IntKind} {a b : Int} (h : a = b) : Ending.returned (.int k a) = .returned (.int k b) := by rw [h]
theorem ret_bool {a b : Bool} (h : a = b) : Ending.returned (.bool a) = .returned (.bool b) := by rw [h]

/-- The slice (ao, len, cap) reads as xs in w. -/
structure Tx (w : World) (ao : Option Addr) (len cap : Nat) (xs : List Int) : Prop where
  len_eq : xs.length = len
  le : len ≤ cap
  top : cap ≤ maxLen
  bare : ao = none → len = 0 ∧ cap = 0
  cell : ∀ ad, ao = some ad → ∀ j, j < len → w.cell? (ad.add j) = some (.int .u8 (xs.getD j 0))
  rng : ∀ n ∈ xs, 0 ≤ n ∧ n ≤ 255

theorem Tx.later {w w' : World} {ao : Option Addr} {len cap : Nat} {xs : List Int} (h : Tx w ao len cap xs) (hb : Below w.heap.size w w') : Tx w' ao len cap xs :=
  ⟨h.len_eq, h.le, h.top, h.bare, fun ad ha j hj => cell_later hb (h.cell ad ha j hj), h.rng⟩

theorem Tx.nil (w : World) : Tx w none 0 0 [] := ⟨rfl, Nat.le_refl _, by unfold maxLen; omega, fun _ => ⟨rfl, rfl⟩, fun _ h => (by cases h), by simp⟩

theorem Tx.head {w : World} {ao : Option Addr} {len cap : Nat} {xs : List Int} (h : Tx w ao len cap xs) (h0 : 0 < len) :
    ∃ b off, ao = some ⟨b, off, none⟩ ∧ ∀ j, j < len → w.cell? ⟨b, off + j, none⟩ = some (.int .u8 (xs.getD j 0)) := by
  cases ao with
  | none => have := h.bare rfl; omega
  | some a =>
    obtain ⟨b, off, spot⟩ := a
    have hspot : spot = none := by simpa [Addr.add] using World.cell?_spot (h.cell _ rfl 0 h0)
    subst hspot
    exact ⟨b, off, rfl, fun j hj => by have := h.cell _ rfl j hj; rwa [Addr.add_lit] at this⟩

theorem Tx.rngAt {w : World} {ao : Option Addr} {len cap : Nat} {xs : List Int} (h : Tx w ao len cap xs) (j : Nat) : 0 ≤ xs.getD j 0 ∧ xs.getD j 0 ≤ 255 := by
  by_cases hj : j < xs.length
  · have e : xs.getD j 0 = xs[j] := by simp [List.getD, hj]
    rw [e]; exact h.rng _ (List.getElem_mem hj)
  · simp [List.getD, hj]

theorem Tx.take {w : World} {ao : Option Addr} {len cap : Nat} {xs : List Int} (h : Tx w ao len cap xs) (k : Nat) (hk : k ≤ len) : Tx w ao k cap (xs.take k) := by
  refine ⟨by have := h.len_eq; simp; omega, by have := h.le; omega, h.top, fun ha => ⟨by have := h.bare ha; omega, (h.bare ha).2⟩, fun ad ha j hj => ?_, fun n hn => h.rng n (List.mem_of_mem_take hn)⟩
  rw [h.cell ad ha j (by omega)]
  simp [List.getD, hj]

theorem Tx.string {w : World} {ao : Option Addr} {len cap : Nat} {xs : List Int} (h : Tx w ao len cap xs) :
    (convert 27 9 (.slice ao len cap)).run Tryd.prog w = .ok (.string (strOfNums xs)) w := by
  by_cases h0 : 0 < len
  · obtain ⟨b, off, rfl, hc⟩ := h.head h0
    exact run_convert_bytes_arg w 27 5 Tryd.underlying27 Tryd.underlying5 b off len cap xs h.len_eq (fun i hi => hc i hi) 9 Tryd.underlying9
  · obtain rfl : len = 0 := by omega
    have hx : xs = [] := List.eq_nil_of_length_eq_zero h.len_eq
    subst hx
    cases ao with
    | none =>
      have := run_convert_bytes_nil (P := Tryd.prog) w 27 5 Tryd.underlying27 Tryd.underlying5 0 cap 9 Tryd.underlying9
      rw [this]; rfl
    | some a =>
      rw [run_convert_bytes_string w 27 9 5 (some a) 0 cap Tryd.underlying27 Tryd.underlying5 Tryd.underlying9, run_bytesToString w a 0 cap [] (by simpa using run_loadCells_list (P := Tryd.prog) w a [] (by simp))]
      rfl

/-- A row of its own reads as its cells. -/
theorem Tx.own {w : World} {base : Nat} {v : Value} {n : Nat} {xs : List Int} (h : w.ownsRow base 5 1 v n (xs.map (Value.int .u8))) (hr : ∀ n ∈ xs, 0 ≤ n ∧ n ≤ 255) :
    ∃ ao cap, v = .slice ao n cap ∧ Tx w ao n cap xs := by
  obtain ⟨hl, h2⟩ := h
  simp at hl
  rcases h2 with ⟨rfl, rfl⟩ | ⟨g, cap, cur, rfl, hb, hg, hn, hm, hs, ht⟩
  · exact ⟨none, 0, rfl, ⟨hl, Nat.le_refl _, by unfold maxLen; omega, fun _ => ⟨rfl, rfl⟩, fun _ h => (by cases h), hr⟩⟩
  · refine ⟨_, cap, rfl, ⟨hl, hn, hm, fun h => (by cases h), fun ad ha j hj => ?_, hr⟩⟩
    cases ha
    rw [Addr.add_lit, cell_of_row w g _ cur 5 (0, 0) hg, Nat.zero_add]
    have : (xs.map (Value.int .u8))[j]? = cur[j]? := by rw [← ht]; simp [hj]
    rw [← this]
    simp [List.getD, show j < xs.length by omega]
end

section
open Go.RowKit

/-- Block g of w holds the bytes zs, no more. -/
def Row (w : World) (g : Nat) (zs : List Int) : Prop := w.heap[g]? = some (.cells (zs.map (Value.int .u8)).toArray 5 (0, 0))

theorem Row.cell {w : World} {g : Nat} {zs : List Int} (h : Row w g zs) (j : Nat) (hj : j < zs.length) : w.cell? ⟨g, j, none⟩ = some (.int .u8 (zs.getD j 0)) := by
  rw [cell_of_row w g j _ 5 (0, 0) h]
  simp [List.getD, hj]
theorem Row.free {w : World} {g : Nat} {zs : List Int} (h : Row w g zs) (j : Nat) : w.frozen? ⟨g, j, none⟩ = false := frozen_of_row w g j _ 5 h
theorem Row.set {w : World} {g : Nat} {zs : List Int} (h : Row w g zs) (j : Nat) (x : Int) : Row (w.setCell ⟨g, j, none⟩ (.int .u8 x)) g (zs.set j x) := by
  unfold Row
  rw [heap_setCell_same w g j _ 5 _ h]
  simp
theorem Row.tx {w : World} {g : Nat} {zs : List Int} (h : Row w g zs) (n : Nat) (hn : zs.length = n) (hm : n ≤ 1000000000) (hr : ∀ n ∈ zs, 0 ≤ n ∧ n ≤ 255) : Tx w (some ⟨g, 0, none⟩) n n zs := by
  subst hn
  refine ⟨rfl, Nat.le_refl _, by unfold maxLen; omega, fun h => (by cases h), fun ad ha j hj => ?_, hr⟩
  cases ha
  rw [Addr.add_lit, Nat.zero_add]
  exact h.cell j hj

theorem Row.later {w w' : World} {g : Nat} {zs : List Int} (h : Row w g zs) (hb : Below w.heap.size w w') : Row w' g zs := by
  unfold Row
  rw [hb.block g (Array.getElem?_eq_some_iff.1 h).1]; exact h

theorem Row.lt {w : World} {g : Nat} {zs : List Int} (h : Row w g zs) : g < w.heap.size := (Array.getElem?_eq_some_iff.1 h).1

theorem Row.made {w : World} {base g n : Nat} (h : w.ownsRow base 5 1 (.slice (some ⟨g, 0, none⟩) n n) n (madeCells (Value.int .u8 0).cells (n * 1)).toList) : Row w g (List.replicate n 0) := by
  obtain ⟨_, ⟨h', _⟩ | ⟨g', cap, cur, h', _, hg, _, _, hs, ht⟩⟩ := h
  · simp at h'
  · simp only [Value.slice.injEq, Option.some.injEq, Addr.mk.injEq, and_true, true_and] at h'
    obtain ⟨rfl, rfl⟩ := h'
    unfold Row
    rw [hg]
    congr 2
    apply Array.toList_inj.1
    rw [List.take_of_length_le (by simp [hs])] at ht
    rw [ht]
    apply List.ext_getElem
    · simp [madeCells]
    · intro i h1 h2
      simp [madeCells, Value.cells, Nat.mod_one]

theorem Tryd.info5 : (Tryd.prog.info? 5).map (fun i => (i.zero, i.size, i.bytes)) = some (some (.int .u8 0), 1, 1) := by kernel_rfl
theorem Tryd.size5 : (Tryd.prog.info? 5).map (·.size) = some 1 := by kernel_rfl

/-- 'make([]byte, n)'. -/
theorem wpList_make_bytes (w : World) {ops : Array Oper} {rest : List Oper} {o : Oper} {a : Act} {Q : Exit → Act → World → Prop}
    (hg : o.guard = none) (l c : Operand) (hop : o.op = Op.makeSlice 27 l c)
    (kl kc : IntKind) (L C : Int) (n : Nat) (hl : a.eval l = .int kl L) (hc : a.eval c = .int kc C) (hL : L = (n : Int)) (hC : C = (n : Int)) (b : n ≤ 1000000000)
    (hK : ∀ w', Row w' w.heap.size (List.replicate n 0) → Below w.heap.size w w' → wpList Tryd.prog ops Q rest (a.put o.dst (.slice (some ⟨w.heap.size, 0, none⟩) n n)) w') :
    wpList Tryd.prog ops Q (o :: rest) a w := by
  obtain ⟨i, hi, hz0, hz1, hz2⟩ := info_parts Tryd.info5
  refine wpList_make_full w hg l c 27 hop w.heap.size 5 i (.int .u8 0) 1 Tryd.underlying27 hi hz0 hz1 kl kc L C n hl hc hL hC (by rw [hz2]; omega) (by unfold maxLen; omega) (Nat.le_refl _) ?_
  intro w' hown hgrow
  exact hK w' (Row.made hown) ((Below.refl _ _).grown hgrow (Nat.le_refl _) (fun k hk => by cases hk))

/-- 'copy(out, b)', out a row of its own, whole. -/
theorem wpList_copy_bytes (w : World) {ops : Array Oper} {rest : List Oper} {o : Oper} {a : Act} {Q : Exit → Act → World → Prop}
    (hg : o.guard = none) (d s : Operand) (hop : o.op = .call { callee := .builtin .copy, args := #[d, s], argTypes := #[27, 27] })
    (g n : Nat) (zs : List Int) (hd : a.eval d = .slice (some ⟨g, 0, none⟩) n n) (hrow : Row w g zs) (hz : zs.length = n)
    (ao : Option Addr) (sl sc : Nat) (xs : List Int) (hs : a.eval s = .slice ao sl sc) (hx : Tx w ao sl sc xs) (B : Nat) (w0 : World) (hb : Below B w0 w) (hB : B ≤ g)
    (hK : ∀ w', Hid (Row w' g (xs.take n ++ zs.drop xs.length)) → Below B w0 w' → wpList Tryd.prog ops Q rest (a.put o.dst (goInt ((xs.take n).map (Value.int .u8)).length)) w') :
    wpList Tryd.prog ops Q (o :: rest) a w := by
  have hxl := hx.len_eq
  refine wpList_copy_splice hg d s 27 27 hop 5 Tryd.underlying27 Tryd.size5 (some ⟨g, 0, none⟩) ao n n sl sc hd hs g 0 (zs.map (Value.int .u8)) 5 hrow ((xs.take n).map (Value.int .u8))
    (by simp [hxl, Nat.min_comm]) (fun hp => ⟨rfl, ?_⟩) (by simp; omega) (ints_oneCell _ _) B w0 hb hB ?_
  · cases ao with
    | none => have := hx.bare rfl; simp at hp; omega
    | some ad =>
      refine ⟨ad, rfl, fun j v hj => ?_⟩
      have hjl : j < xs.length ∧ j < n := by
        have := (List.getElem?_eq_some_iff.1 hj).1
        simp at this; omega
      rw [hx.cell ad rfl j (by omega)]
      simp [hjl.1, hjl.2] at hj
      simp [List.getD, hjl.1, hj]
  · intro w' hr hbw
    refine hK w' ?_ hbw
    have := hr.out
    show Row w' g _
    unfold Row
    rw [this]
    congr 3
    simp only [splice, List.take_zero, List.nil_append, Nat.zero_add, List.length_map, List.map_append, ← List.map_drop]
    congr 2
    by_cases h : xs.length ≤ n
    · rw [List.take_of_length_le h]
    · rw [List.drop_eq_nil_of_le (by simp; omega), List.drop_eq_nil_of_le (by omega)]

/-- 'append(out, b...)', out the call's own. -/
theorem wpList_append_bytes (w : World) {ops : Array Oper} {rest : List Oper} {o : Oper} {a : Act} {Q : Exit → Act → World → Prop}
    (hg : o.guard = none) (s x : Operand) (hop : o.op = .call { callee := .builtin .append, args := #[s, x], argTypes := #[27, 27] })
    (base : Nat) (v : Value) (n : Nat) (xs : List Int) (hs : a.eval s = v) (hown : w.ownsRow base 5 1 v n (xs.map (Value.int .u8))) (hxr : ∀ n ∈ xs, 0 ≤ n ∧ n ≤ 255)
    (ao : Option Addr) (m c : Nat) (ys : List Int) (hx : a.eval x = .slice ao m c) (ht : Tx w ao m c ys) (b : n + m ≤ 1000000000) (hbase : base ≤ w.heap.size)
    (hK : ∀ ao' k' cap' w', k' = n + m → w'.ownsRow base 5 1 (.slice ao' k' cap') k' ((xs ++ ys).map (Value.int .u8)) → Tx w' ao' k' cap' (xs ++ ys) → Below base w w' → wpList Tryd.prog ops Q rest (a.put o.dst (.slice ao' k' cap')) w') :
    wpList Tryd.prog ops Q (o :: rest) a w := by
  obtain ⟨i, hi, hz0, hz1, hz2⟩ := info_parts Tryd.info5
  have hr : ∀ n ∈ xs ++ ys, 0 ≤ n ∧ n ≤ 255 := by
    intro n hn
    rcases List.mem_append.1 hn with h | h
    · exact hxr n h
    · exact ht.rng n h
  cases ao with
  | none =>
    obtain ⟨rfl, rfl⟩ := ht.bare rfl
    have hy : ys = [] := List.eq_nil_of_length_eq_zero ht.len_eq
    subst hy
    simp only [List.append_nil] at hK hr
    refine wpList_append_own_none hg s x 27 hop base 5 i 1 Tryd.underlying27 hi v n _ hs hown hx ?_
    obtain ⟨ao', cap', rfl, htx⟩ := Tx.own hown hr
    exact hK ao' n cap' w rfl hown htx (Below.refl _ _)
  | some ad =>
    refine wpList_append_own w hg s x 27 hop base 5 i (.int .u8 0) 1 1 Tryd.underlying27 hi hz0 hz1 hz2 rfl (by decide) v n _ hs hown ad m c (ys.map (Value.int .u8)) hx (by simp [ht.len_eq])
      (fun j u hu => ?_) (ints_oneCell _ _) (by unfold maxLen; omega) (by omega) hbase ?_
    · have hjl : j < ys.length := by
        have := (List.getElem?_eq_some_iff.1 hu).1
        simpa using this
      rw [ht.cell ad rfl j (by rw [← ht.len_eq]; exact hjl)]
      simp [hjl] at hu
      simp [List.getD, hjl, hu]
    · intro v' w' hown' hgrow _
      rw [← List.map_append] at hown'
      obtain ⟨ao', cap', rfl, htx⟩ := Tx.own hown' hr
      exact hK ao' (n + m) cap' w' rfl hown' htx ((Below.refl _ _).grown hgrow hbase (fun k hk => (hown.lt k hk).1))
end

end Go.Proofs.YtgleblfkcdkaeaaDoor
