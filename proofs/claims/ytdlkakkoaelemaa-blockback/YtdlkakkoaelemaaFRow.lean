/- A row of bytes that the call itself has made: what make, copy, append and a store do to it. -/
import Derived.Test.YtdlkakkoaelemaaFTx
import Derived.Laws.AppendOwnNone
namespace Go.Proofs.Ytdlkakkoaelemaa
open Go.RowKit

/-- Block g of w holds the bytes zs, no more. -/
def Row (w : World) (g : Nat) (zs : List Int) : Prop := w.heap[g]? = some (.cells (zs.map (Value.int .u8)).toArray 5 (0, 0))

theorem Row.cell {w : World} {g : Nat} {zs : List Int} (h : Row w g zs) (j : Nat) (hj : j < zs.length) : w.cell? ⟨g, j, none⟩ = some (.int .u8 (zs.getD j 0)) := by
  rw [cell_of_row w g j _ 5 (0, 0) h]
  simp [List.getD, hj]
theorem Row.free {w : World} {g : Nat} {zs : List Int} (h : Row w g zs) (j : Nat) : w.frozen? ⟨g, j, none⟩ = false := frozen_of_row w g j _ 5 h
theorem Row.set {w : World} {g : Nat} {zs : List Int} (h : Row w g zs) (j : Nat) (x : Int) : Row (w.setCell ⟨g, j, none⟩ (.int .u8 x)) g (zs.set j x) := by
  unfold Row
  rw [heap_setCell_same w g j _ 5 _ h]
  simp
theorem Row.tx {w : World} {g : Nat} {zs : List Int} (h : Row w g zs) (n : Nat) (hn : zs.length = n) (hm : n ≤ 1000000000) (hr : ∀ n ∈ zs, 0 ≤ n ∧ n ≤ 255) : Tx w (some ⟨g, 0, none⟩) n n zs := by
  subst hn
  refine ⟨rfl, Nat.le_refl _, by unfold maxLen; omega, fun h => (by cases h), fun ad ha j hj => ?_, hr⟩
  cases ha
  rw [Addr.add_lit, Nat.zero_add]
  exact h.cell j hj

theorem Row.later {w w' : World} {g : Nat} {zs : List Int} (h : Row w g zs) (hb : Below w.heap.size w w') : Row w' g zs := by
  unfold Row
  rw [hb.block g (Array.getElem?_eq_some_iff.1 h).1]; exact h

theorem Row.lt {w : World} {g : Nat} {zs : List Int} (h : Row w g zs) : g < w.heap.size := (Array.getElem?_eq_some_iff.1 h).1

theorem Row.made {w : World} {base g n : Nat} (h : w.ownsRow base 5 1 (.slice (some ⟨g, 0, none⟩) n n) n (madeCells (Value.int .u8 0).cells (n * 1)).toList) : Row w g (List.replicate n 0) := by
  obtain ⟨_, ⟨h', _⟩ | ⟨g', cap, cur, h', _, hg, _, _, hs, ht⟩⟩ := h
  · simp at h'
  · simp only [Value.slice.injEq, Option.some.injEq, Addr.mk.injEq, and_true, true_and] at h'
    obtain ⟨rfl, rfl⟩ := h'
    unfold Row
    rw [hg]
    congr 2
    apply Array.toList_inj.1
    rw [List.take_of_length_le (by simp [hs])] at ht
    rw [ht]
    apply List.ext_getElem
    · simp [madeCells]
    · intro i h1 h2
      simp [madeCells, Value.cells, Nat.mod_one]

theorem Try.info5 : (Try.prog.info? 5).map (fun i => (i.zero, i.size, i.bytes)) = some (some (.int .u8 0), 1, 1) := by kernel_rfl
theorem Try.size5 : (Try.prog.info? 5).map (·.size) = some 1 := by kernel_rfl

/-- 'make([]byte, n)'. -/
theorem wpList_make_bytes (w : World) {ops : Array Oper} {rest : List Oper} {o : Oper} {a : Act} {Q : Exit → Act → World → Prop}
    (hg : o.guard = none) (l c : Operand) (hop : o.op = Op.makeSlice 23 l c)
    (kl kc : IntKind) (L C : Int) (n : Nat) (hl : a.eval l = .int kl L) (hc : a.eval c = .int kc C) (hL : L = (n : Int)) (hC : C = (n : Int)) (b : n ≤ 1000000000)
    (hK : ∀ w', Row w' w.heap.size (List.replicate n 0) → Below w.heap.size w w' → wpList Try.prog ops Q rest (a.put o.dst (.slice (some ⟨w.heap.size, 0, none⟩) n n)) w') :
    wpList Try.prog ops Q (o :: rest) a w := by
  obtain ⟨i, hi, hz0, hz1, hz2⟩ := info_parts Try.info5
  refine wpList_make_full w hg l c 23 hop w.heap.size 5 i (.int .u8 0) 1 Try.underlying23 hi hz0 hz1 kl kc L C n hl hc hL hC (by rw [hz2]; omega) (by unfold maxLen; omega) (Nat.le_refl _) ?_
  intro w' hown hgrow
  exact hK w' (Row.made hown) ((Below.refl _ _).grown hgrow (Nat.le_refl _) (fun k hk => by cases hk))

/-- 'copy(out, b)', out a row of its own, whole. -/
theorem wpList_copy_bytes (w : World) {ops : Array Oper} {rest : List Oper} {o : Oper} {a : Act} {Q : Exit → Act → World → Prop}
    (hg : o.guard = none) (d s : Operand) (hop : o.op = .call { callee := .builtin .copy, args := #[d, s], argTypes := #[23, 23] })
    (g n : Nat) (zs : List Int) (hd : a.eval d = .slice (some ⟨g, 0, none⟩) n n) (hrow : Row w g zs) (hz : zs.length = n)
    (ao : Option Addr) (sl sc : Nat) (xs : List Int) (hs : a.eval s = .slice ao sl sc) (hx : Tx w ao sl sc xs) (B : Nat) (w0 : World) (hb : Below B w0 w) (hB : B ≤ g)
    (hK : ∀ w', Hid (Row w' g (xs.take n ++ zs.drop xs.length)) → Below B w0 w' → wpList Try.prog ops Q rest (a.put o.dst (goInt ((xs.take n).map (Value.int .u8)).length)) w') :
    wpList Try.prog ops Q (o :: rest) a w := by
  have hxl := hx.len_eq
  refine wpList_copy_splice hg d s 23 23 hop 5 Try.underlying23 Try.size5 (some ⟨g, 0, none⟩) ao n n sl sc hd hs g 0 (zs.map (Value.int .u8)) 5 hrow ((xs.take n).map (Value.int .u8))
    (by simp [hxl, Nat.min_comm]) (fun hp => ⟨rfl, ?_⟩) (by simp; omega) (ints_oneCell _ _) B w0 hb hB ?_
  · cases ao with
    | none => have := hx.bare rfl; simp at hp; omega
    | some ad =>
      refine ⟨ad, rfl, fun j v hj => ?_⟩
      have hjl : j < xs.length ∧ j < n := by
        have := (List.getElem?_eq_some_iff.1 hj).1
        simp at this; omega
      rw [hx.cell ad rfl j (by omega)]
      simp [hjl.1, hjl.2] at hj
      simp [List.getD, hjl.1, hj]
  · intro w' hr hbw
    refine hK w' ?_ hbw
    have := hr.out
    show Row w' g _
    unfold Row
    rw [this]
    congr 3
    simp only [splice, List.take_zero, List.nil_append, Nat.zero_add, List.length_map, List.map_append, ← List.map_drop]
    congr 2
    by_cases h : xs.length ≤ n
    · rw [List.take_of_length_le h]
    · rw [List.drop_eq_nil_of_le (by simp; omega), List.drop_eq_nil_of_le (by omega)]

/-- 'append(out, b...)', out the call's own. -/
theorem wpList_append_bytes (w : World) {ops : Array Oper} {rest : List Oper} {o : Oper} {a : Act} {Q : Exit → Act → World → Prop}
    (hg : o.guard = none) (s x : Operand) (hop : o.op = .call { callee := .builtin .append, args := #[s, x], argTypes := #[23, 23] })
    (base : Nat) (v : Value) (n : Nat) (xs : List Int) (hs : a.eval s = v) (hown : w.ownsRow base 5 1 v n (xs.map (Value.int .u8))) (hxr : ∀ n ∈ xs, 0 ≤ n ∧ n ≤ 255)
    (ao : Option Addr) (m c : Nat) (ys : List Int) (hx : a.eval x = .slice ao m c) (ht : Tx w ao m c ys) (b : n + m ≤ 1000000000) (hbase : base ≤ w.heap.size)
    (hK : ∀ ao' k' cap' w', k' = n + m → w'.ownsRow base 5 1 (.slice ao' k' cap') k' ((xs ++ ys).map (Value.int .u8)) → Tx w' ao' k' cap' (xs ++ ys) → Below base w w' → wpList Try.prog ops Q rest (a.put o.dst (.slice ao' k' cap')) w') :
    wpList Try.prog ops Q (o :: rest) a w := by
  obtain ⟨i, hi, hz0, hz1, hz2⟩ := info_parts Try.info5
  have hr : ∀ n ∈ xs ++ ys, 0 ≤ n ∧ n ≤ 255 := by
    intro n hn
    rcases List.mem_append.1 hn with h | h
    · exact hxr n h
    · exact ht.rng n h
  cases ao with
  | none =>
    obtain ⟨rfl, rfl⟩ := ht.bare rfl
    have hy : ys = [] := List.eq_nil_of_length_eq_zero ht.len_eq
    subst hy
    simp only [List.append_nil] at hK hr
    refine wpList_append_own_none hg s x 23 hop base 5 i 1 Try.underlying23 hi v n _ hs hown hx ?_
    obtain ⟨ao', cap', rfl, htx⟩ := Tx.own hown hr
    exact hK ao' n cap' w rfl hown htx (Below.refl _ _)
  | some ad =>
    refine wpList_append_own w hg s x 23 hop base 5 i (.int .u8 0) 1 1 Try.underlying23 hi hz0 hz1 hz2 rfl (by decide) v n _ hs hown ad m c (ys.map (Value.int .u8)) hx (by simp [ht.len_eq])
      (fun j u hu => ?_) (ints_oneCell _ _) (by unfold maxLen; omega) (by omega) hbase ?_
    · have hjl : j < ys.length := by
        have := (List.getElem?_eq_some_iff.1 hu).1
        simpa using this
      rw [ht.cell ad rfl j (by rw [← ht.len_eq]; exact hjl)]
      simp [hjl] at hu
      simp [List.getD, hjl, hu]
    · intro v' w' hown' hgrow _
      rw [← List.map_append] at hown'
      obtain ⟨ao', cap', rfl, htx⟩ := Tx.own hown' hr
      exact hK ao' (n + m) cap' w' rfl hown' htx ((Below.refl _ _).grown hgrow hbase (fun k hk => (hown.lt k hk).1))

end Go.Proofs.Ytdlkakkoaelemaa
