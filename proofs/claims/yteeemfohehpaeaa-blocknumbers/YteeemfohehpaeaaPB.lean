/- A slice of bytes that reads as a list of numbers, in whatever world: what the walks ask of a slice, and what carries it on. A row of bytes that the call itself has made: what make, copy, append and a store do to it. The walks of octet.Get, the document's Get, Cut, Same and Within. The walk of octet.Put. The walk of the document's Put. What a number's bytes read as: the number, as far as its bytes go. The walks of octet.Shared, octet.Less, octet.Get and marigraphkeep.Cut. The walks of octet.Less, marigraphkeep.Cut, octet.Get. The walks of the document's Less and Shared, of marigraphbook.Same and Within. -/
import Derived.Test.YteeemfohehpaeaaChecked
import Derived.Test.YteeemfohehpaeaaPA
import Derived.WalkKit
import Derived.WalkSpells
import Derived.WalkLawsBesides
import Derived.Deep.QuietTactic
import Derived.BigQuiet
import Derived.RowKit3
import Derived.Outline
import Derived.WalkSmall
import Derived.Laws.BytesArg
import Derived.Laws.CopyOwn
import Derived.Lib.QuietBelow
import Derived.Laws.AppendOwnNone
import Derived.Laws.BitsLemmas
import Derived.Laws.Bits64
namespace Go.Proofs.Yteeemfohehpaeaa

section
set_option maxRecDepth 100000
open Go.RowKit

theorem ret_int {k : IntKind} {a b : Int} (h : a = b) : Ending.returned (.int k a) = .returned (.int k b) := by rw [h]
theorem ret_bool {a b : Bool} (h : a = b) : Ending.returned (.bool a) = .returned (.bool b) := by rw [h]

/-- The slice (ao, len, cap) reads as xs in w. -/
structure Tx (w : World) (ao : Option Addr) (len cap : Nat) (xs : List Int) : Prop where
  len_eq : xs.length = len
  le : len ≤ cap
  top : cap ≤ maxLen
  bare : ao = none → len = 0 ∧ cap = 0
  cell : ∀ ad, ao = some ad → ∀ j, j < len → w.cell? (ad.add j) = some (.int .u8 (xs.getD j 0))
  rng : ∀ n ∈ xs, 0 ≤ n ∧ n ≤ 255

theorem Tx.later {w w' : World} {ao : Option Addr} {len cap : Nat} {xs : List Int} (h : Tx w ao len cap xs) (hb : Below w.heap.size w w') : Tx w' ao len cap xs :=
  ⟨h.len_eq, h.le, h.top, h.bare, fun ad ha j hj => cell_later hb (h.cell ad ha j hj), h.rng⟩

theorem Tx.nil (w : World) : Tx w none 0 0 [] := ⟨rfl, Nat.le_refl _, by unfold maxLen; omega, fun _ => ⟨rfl, rfl⟩, fun _ h => (by cases h), by simp⟩

theorem Tx.head {w : World} {ao : Option Addr} {len cap : Nat} {xs : List Int} (h : Tx w ao len cap xs) (h0 : 0 < len) :
    ∃ b off, ao = some ⟨b, off, none⟩ ∧ ∀ j, j < len → w.cell? ⟨b, off + j, none⟩ = some (.int .u8 (xs.getD j 0)) := by
  cases ao with
  | none => have := h.bare rfl; omega
  | some a =>
    obtain ⟨b, off, spot⟩ := a
    have hspot : spot = none := by simpa [Addr.add] using World.cell?_spot (h.cell _ rfl 0 h0)
    subst hspot
    exact ⟨b, off, rfl, fun j hj => by have := h.cell _ rfl j hj; rwa [Addr.add_lit] at this⟩

theorem Tx.rngAt {w : World} {ao : Option Addr} {len cap : Nat} {xs : List Int} (h : Tx w ao len cap xs) (j : Nat) : 0 ≤ xs.getD j 0 ∧ xs.getD j 0 ≤ 255 := by
  by_cases hj : j < xs.length
  · have e : xs.getD j 0 = xs[j] := by simp [List.getD, hj]
    rw [e]; exact h.rng _ (List.getElem_mem hj)
  · simp [List.getD, hj]

theorem Tx.take {w : World} {ao : Option Addr} {len cap : Nat} {xs : List Int} (h : Tx w ao len cap xs) (k : Nat) (hk : k ≤ len) : Tx w ao k cap (xs.take k) := by
  refine ⟨by have := h.len_eq; simp; omega, by have := h.le; omega, h.top, fun ha => ⟨by have := h.bare ha; omega, (h.bare ha).2⟩, fun ad ha j hj => ?_, fun n hn => h.rng n (List.mem_of_mem_take hn)⟩
  rw [h.cell ad ha j (by omega)]
  simp [List.getD, hj]

theorem Tx.string {w : World} {ao : Option Addr} {len cap : Nat} {xs : List Int} (h : Tx w ao len cap xs) :
    (convert 23 9 (.slice ao len cap)).run Try.prog w = .ok (.string (strOfNums xs)) w := by
  by_cases h0 : 0 < len
  · obtain ⟨b, off, rfl, hc⟩ := h.head h0
    exact run_convert_bytes_arg w 23 5 Try.underlying23 Try.underlying5 b off len cap xs h.len_eq (fun i hi => hc i hi) 9 Try.underlying9
  · obtain rfl : len = 0 := by omega
    have hx : xs = [] := List.eq_nil_of_length_eq_zero h.len_eq
    subst hx
    cases ao with
    | none =>
      have := run_convert_bytes_nil (P := Try.prog) w 23 5 Try.underlying23 Try.underlying5 0 cap 9 Try.underlying9
      rw [this]; rfl
    | some a =>
      rw [run_convert_bytes_string w 23 9 5 (some a) 0 cap Try.underlying23 Try.underlying5 Try.underlying9, run_bytesToString w a 0 cap [] (by simpa using run_loadCells_list (P := Try.prog) w a [] (by simp))]
      rfl

/-- A row of its own reads as its cells. -/
theorem Tx.own {w : World} {base : Nat} {v : Value} {n : Nat} {xs : List Int} (h : w.ownsRow base 5 1 v n (xs.map (Value.int .u8))) (hr : ∀ n ∈ xs, 0 ≤ n ∧ n ≤ 255) :
    ∃ ao cap, v = .slice ao n cap ∧ Tx w ao n cap xs := by
  obtain ⟨hl, h2⟩ := h
  simp at hl
  rcases h2 with ⟨rfl, rfl⟩ | ⟨g, cap, cur, rfl, hb, hg, hn, hm, hs, ht⟩
  · exact ⟨none, 0, rfl, ⟨hl, Nat.le_refl _, by unfold maxLen; omega, fun _ => ⟨rfl, rfl⟩, fun _ h => (by cases h), hr⟩⟩
  · refine ⟨_, cap, rfl, ⟨hl, hn, hm, fun h => (by cases h), fun ad ha j hj => ?_, hr⟩⟩
    cases ha
    rw [Addr.add_lit, cell_of_row w g _ cur 5 (0, 0) hg, Nat.zero_add]
    have : (xs.map (Value.int .u8))[j]? = cur[j]? := by rw [← ht]; simp [hj]
    rw [← this]
    simp [List.getD, show j < xs.length by omega]
end

section
set_option maxRecDepth 100000
open Go.RowKit

/-- Block g of w holds the bytes zs, no more. -/
def Row (w : World) (g : Nat) (zs : List Int) : Prop := w.heap[g]? = some (.cells (zs.map (Value.int .u8)).toArray 5 (0, 0))

theorem Row.cell {w : World} {g : Nat} {zs : List Int} (h : Row w g zs) (j : Nat) (hj : j < zs.length) : w.cell? ⟨g, j, none⟩ = some (.int .u8 (zs.getD j 0)) := by
  rw [cell_of_row w g j _ 5 (0, 0) h]
  simp [List.getD, hj]
theorem Row.free {w : World} {g : Nat} {zs : List Int} (h : Row w g zs) (j : Nat) : w.frozen? ⟨g, j, none⟩ = false := frozen_of_row w g j _ 5 h
theorem Row.set {w : World} {g : Nat} {zs : List Int} (h : Row w g zs) (j : Nat) (x : Int) : Row (w.setCell ⟨g, j, none⟩ (.int .u8 x)) g (zs.set j x) := by
  unfold Row
  rw [heap_setCell_same w g j _ 5 _ h]
  simp
theorem Row.tx {w : World} {g : Nat} {zs : List Int} (h : Row w g zs) (n : Nat) (hn : zs.length = n) (hm : n ≤ 1000000000) (hr : ∀ n ∈ zs, 0 ≤ n ∧ n ≤ 255) : Tx w (some ⟨g, 0, none⟩) n n zs := by
  subst hn
  refine ⟨rfl, Nat.le_refl _, by unfold maxLen; omega, fun h => (by cases h), fun ad ha j hj => ?_, hr⟩
  cases ha
  rw [Addr.add_lit, Nat.zero_add]
  exact h.cell j hj

theorem Row.later {w w' : World} {g : Nat} {zs : List Int} (h : Row w g zs) (hb : Below w.heap.size w w') : Row w' g zs := by
  unfold Row
  rw [hb.block g (Array.getElem?_eq_some_iff.1 h).1]; exact h

theorem Row.lt {w : World} {g : Nat} {zs : List Int} (h : Row w g zs) : g < w.heap.size := (Array.getElem?_eq_some_iff.1 h).1

theorem Row.made {w : World} {base g n : Nat} (h : w.ownsRow base 5 1 (.slice (some ⟨g, 0, none⟩) n n) n (madeCells (Value.int .u8 0).cells (n * 1)).toList) : Row w g (List.replicate n 0) := by
  obtain ⟨_, ⟨h', _⟩ | ⟨g', cap, cur, h', _, hg, _, _, hs, ht⟩⟩ := h
  · simp at h'
  · simp only [Value.slice.injEq, Option.some.injEq, Addr.mk.injEq, and_true, true_and] at h'
    obtain ⟨rfl, rfl⟩ := h'
    unfold Row
    rw [hg]
    congr 2
    apply Array.toList_inj.1
    rw [List.take_of_length_le (by simp [hs])] at ht
    rw [ht]
    apply List.ext_getElem
    · simp [madeCells]
    · intro i h1 h2
      simp [madeCells, Value.cells, Nat.mod_one]

theorem Try.info5 : (Try.prog.info? 5).map (fun i => (i.zero, i.size, i.bytes)) = some (some (.int .u8 0), 1, 1) := by kernel_rfl
theorem Try.size5 : (Try.prog.info? 5).map (·.size) = some 1 := by kernel_rfl

/-- 'make([]byte, n)'. -/
theorem wpList_make_bytes (w : World) {ops : Array Oper} {rest : List Oper} {o : Oper} {a : Act} {Q : Exit → Act → World → Prop}
    (hg : o.guard = none) (l c : Operand) (hop : o.op = Op.makeSlice 23 l c)
    (kl kc : IntKind) (L C : Int) (n : Nat) (hl : a.eval l = .int kl L) (hc : a.eval c = .int kc C) (hL : L = (n : Int)) (hC : C = (n : Int)) (b : n ≤ 1000000000)
    (hK : ∀ w', Row w' w.heap.size (List.replicate n 0) → Below w.heap.size w w' → wpList Try.prog ops Q rest (a.put o.dst (.slice (some ⟨w.heap.size, 0, none⟩) n n)) w') :
    wpList Try.prog ops Q (o :: rest) a w := by
  obtain ⟨i, hi, hz0, hz1, hz2⟩ := info_parts Try.info5
  refine wpList_make_full w hg l c 23 hop w.heap.size 5 i (.int .u8 0) 1 Try.underlying23 hi hz0 hz1 kl kc L C n hl hc hL hC (by rw [hz2]; omega) (by unfold maxLen; omega) (Nat.le_refl _) ?_
  intro w' hown hgrow
  exact hK w' (Row.made hown) ((Below.refl _ _).grown hgrow (Nat.le_refl _) (fun k hk => by cases hk))

/-- 'copy(out, b)', out a row of its own, whole. -/
theorem wpList_copy_bytes (w : World) {ops : Array Oper} {rest : List Oper} {o : Oper} {a : Act} {Q : Exit → Act → World → Prop}
    (hg : o.guard = none) (d s : Operand) (hop : o.op = .call { callee := .builtin .copy, args := #[d, s], argTypes := #[23, 23] })
    (g n : Nat) (zs : List Int) (hd : a.eval d = .slice (some ⟨g, 0, none⟩) n n) (hrow : Row w g zs) (hz : zs.length = n)
    (ao : Option Addr) (sl sc : Nat) (xs : List Int) (hs : a.eval s = .slice ao sl sc) (hx : Tx w ao sl sc xs) (B : Nat) (w0 : World) (hb : Below B w0 w) (hB : B ≤ g)
    (hK : ∀ w', Hid (Row w' g (xs.take n ++ zs.drop xs.length)) → Below B w0 w' → wpList Try.prog ops Q rest (a.put o.dst (goInt ((xs.take n).map (Value.int .u8)).length)) w') :
    wpList Try.prog ops Q (o :: rest) a w := by
  have hxl := hx.len_eq
  refine wpList_copy_splice hg d s 23 23 hop 5 Try.underlying23 Try.size5 (some ⟨g, 0, none⟩) ao n n sl sc hd hs g 0 (zs.map (Value.int .u8)) 5 hrow ((xs.take n).map (Value.int .u8))
    (by simp [hxl, Nat.min_comm]) (fun hp => ⟨rfl, ?_⟩) (by simp; omega) (ints_oneCell _ _) B w0 hb hB ?_
  · cases ao with
    | none => have := hx.bare rfl; simp at hp; omega
    | some ad =>
      refine ⟨ad, rfl, fun j v hj => ?_⟩
      have hjl : j < xs.length ∧ j < n := by
        have := (List.getElem?_eq_some_iff.1 hj).1
        simp at this; omega
      rw [hx.cell ad rfl j (by omega)]
      simp [hjl.1, hjl.2] at hj
      simp [List.getD, hjl.1, hj]
  · intro w' hr hbw
    refine hK w' ?_ hbw
    have := hr.out
    show Row w' g _
    unfold Row
    rw [this]
    congr 3
    simp only [splice, List.take_zero, List.nil_append, Nat.zero_add, List.length_map, List.map_append, ← List.map_drop]
    congr 2
    by_cases h : xs.length ≤ n
    · rw [List.take_of_length_le h]
    · rw [List.drop_eq_nil_of_le (by simp; omega), List.drop_eq_nil_of_le (by omega)]

/-- 'append(out, b...)', out the call's own. -/
theorem wpList_append_bytes (w : World) {ops : Array Oper} {rest : List Oper} {o : Oper} {a : Act} {Q : Exit → Act → World → Prop}
    (hg : o.guard = none) (s x : Operand) (hop : o.op = .call { callee := .builtin .append, args := #[s, x], argTypes := #[23, 23] })
    (base : Nat) (v : Value) (n : Nat) (xs : List Int) (hs : a.eval s = v) (hown : w.ownsRow base 5 1 v n (xs.map (Value.int .u8))) (hxr : ∀ n ∈ xs, 0 ≤ n ∧ n ≤ 255)
    (ao : Option Addr) (m c : Nat) (ys : List Int) (hx : a.eval x = .slice ao m c) (ht : Tx w ao m c ys) (b : n + m ≤ 1000000000) (hbase : base ≤ w.heap.size)
    (hK : ∀ ao' k' cap' w', k' = n + m → w'.ownsRow base 5 1 (.slice ao' k' cap') k' ((xs ++ ys).map (Value.int .u8)) → Tx w' ao' k' cap' (xs ++ ys) → Below base w w' → wpList Try.prog ops Q rest (a.put o.dst (.slice ao' k' cap')) w') :
    wpList Try.prog ops Q (o :: rest) a w := by
  obtain ⟨i, hi, hz0, hz1, hz2⟩ := info_parts Try.info5
  have hr : ∀ n ∈ xs ++ ys, 0 ≤ n ∧ n ≤ 255 := by
    intro n hn
    rcases List.mem_append.1 hn with h | h
    · exact hxr n h
    · exact ht.rng n h
  cases ao with
  | none =>
    obtain ⟨rfl, rfl⟩ := ht.bare rfl
    have hy : ys = [] := List.eq_nil_of_length_eq_zero ht.len_eq
    subst hy
    simp only [List.append_nil] at hK hr
    refine wpList_append_own_none hg s x 23 hop base 5 i 1 Try.underlying23 hi v n _ hs hown hx ?_
    obtain ⟨ao', cap', rfl, htx⟩ := Tx.own hown hr
    exact hK ao' n cap' w rfl hown htx (Below.refl _ _)
  | some ad =>
    refine wpList_append_own w hg s x 23 hop base 5 i (.int .u8 0) 1 1 Try.underlying23 hi hz0 hz1 hz2 rfl (by decide) v n _ hs hown ad m c (ys.map (Value.int .u8)) hx (by simp [ht.len_eq])
      (fun j u hu => ?_) (ints_oneCell _ _) (by unfold maxLen; omega) (by omega) hbase ?_
    · have hjl : j < ys.length := by
        have := (List.getElem?_eq_some_iff.1 hu).1
        simpa using this
      rw [ht.cell ad rfl j (by rw [← ht.len_eq]; exact hjl)]
      simp [hjl] at hu
      simp [List.getD, hjl, hu]
    · intro v' w' hown' hgrow _
      rw [← List.map_append] at hown'
      obtain ⟨ao', cap', rfl, htx⟩ := Tx.own hown' hr
      exact hK ao' (n + m) cap' w' rfl hown' htx ((Below.refl _ _).grown hgrow hbase (fun k hk => (hown.lt k hk).1))
end

section
set_option maxRecDepth 100000
open Go.RowKit

theorem below_drewN {B : Nat} {a w : World} (h : Below B a w) (n : Nat) : Below B a (w.drewN n) := ⟨h.os, h.tape, h.output, h.size, h.block⟩

theorem cut_any (ao : Option Addr) (la ca n : Nat) (xs : List Int) (w : World) (ha : Tx w ao la ca xs) (hn : n ≤ 1000000) :
    Calls Try.prog 15 #[.slice ao la ca, .int .i64 n] w fun e w' => ∃ l, e = .returned (.slice ao l ca) ∧ l ≤ n ∧ Tx w ao l ca (xs.take n) ∧ w' = w := by
  have e1 := ha.len_eq
  have e2 := ha.le
  have e3 := ha.top
  by_cases h : n < la
  · go_enter Try.func15, Try.ntmps15
    go_wp2
    go_ret
    exact ⟨n, rfl, by omega, ha.take n (by omega), rfl⟩
  · go_enter Try.func15, Try.ntmps15
    go_wp2
    go_ret
    exact ⟨la, rfl, by omega, by rw [List.take_of_length_le (by omega)]; exact ha, rfl⟩

/-- One byte more, as Go says it: n<<8 | c. -/
def joinB (n c : Int) : Int := bits .or .u64 (IntKind.u64.wrap (n * 256)) c

def val (xs : List Int) : Int := xs.foldl joinB 0

theorem val_succ (xs : List Int) (j : Nat) (hj : j < xs.length) : val (xs.take (j + 1)) = joinB (val (xs.take j)) (xs.getD j 0) := by
  rw [List.take_succ_eq_append_getElem hj, val, List.foldl_append]
  simp [val, List.getD, hj]

def okG (xs : List Int) (size : Int) : Bool := decide (0 ≤ size ∧ size ≤ 8 ∧ size ≤ xs.length)

def getN (xs : List Int) (size : Int) : Int := if okG xs size = true then val (xs.take size.toNat) else 0

theorem ret_get {n m : Int} {b c : Bool} (h : n = m) (k : b = c) : Ending.returned (.tuple #[.int .u64 n, .bool b]) = .returned (.tuple #[.int .u64 m, .bool c]) := by rw [h, k]

theorem get_any (ao : Option Addr) (la ca : Nat) (size : Int) (xs : List Int) (w : World) (ha : Tx w ao la ca xs) (_sa : la ≤ 140737488351232) (h1 : -9223372036854775808 ≤ size) (h2 : size ≤ 9223372036854775807) :
    Calls Try.prog 68 #[.slice ao la ca, .int .i64 size] w fun e w' => e = .returned (.tuple #[.int .u64 (getN xs size), .bool (okG xs size)]) ∧ w = w' := by
  have e1 := ha.len_eq
  have e2 := ha.le
  have e3 := ha.top
  by_cases hb : size < 0 ∨ 8 < size ∨ la < size
  · have hok : Hid (okG xs size = false) := by show _ = _; simp [okG]; omega
    have hn : Hid (getN xs size = 0) := by show _ = _; simp [getN, hok.out]
    go_enter Try.func68, Try.ntmps68
    go_wp2
    all_goals go_ret2
    all_goals exact ⟨ret_get hn.out.symm hok.out.symm, rfl⟩
  · obtain ⟨k, rfl⟩ : ∃ k : Nat, size = (k : Int) := ⟨size.toNat, by omega⟩
    have hok : Hid (okG xs k = true) := by show _ = _; simp [okG]; omega
    have hn : Hid (getN xs k = val (xs.take k)) := by show _ = _; simp [getN, hok.out]
    by_cases h0 : k = 0
    · subst h0
      go_enter Try.func68, Try.ntmps68
      go_wp2
      refine wp_loop_rounds 1 ?_
      rw [rounds_succ]
      go_wp2
      go_ret2
      exact ⟨ret_get (by rw [hn.out]; rfl) hok.out.symm, rfl⟩
    · obtain ⟨ab, af, rfl, hca⟩ := ha.head (by omega)
      go_enter Try.func68, Try.ntmps68
      go_wp2
      go_loop [6, 8, 25] (fun n _ i => ∃ (m : Int) (j : Nat), j ≤ k ∧ i = .int .i64 j ∧ n = .int .u64 m ∧ Hid (m = val (xs.take j))) (fun _ _ i => k - (intOf i).toNat)
      case atStart => exact ⟨0, 0, by omega, rfl, rfl, rfl⟩
      case round =>
        obtain ⟨m, j, hj, rfl, rfl, hm⟩ := hrel
        by_cases hk : j < k
        · have c1 := hca j (by omega)
          have r1 := ha.rngAt j
          have hs := val_succ xs j (by omega)
          generalize hx : xs.getD j 0 = x at c1 r1 hs
          go_wp2
          go_round
          case rel => exact ⟨joinB m x, j + 1, by omega, by go_num, rfl, by rw [hs, ← hm.out]; rfl⟩
          case measure => simp [intOf]; omega
        · have hjk : j = k := by omega
          go_wp2
          go_ret2
          exact ⟨ret_get (by rw [hn.out, hm.out, hjk]) hok.out.symm, rfl⟩

theorem refget_any (ao : Option Addr) (la ca : Nat) (size : Int) (xs : List Int) (w : World) (ha : Tx w ao la ca xs) (_sa : la ≤ 140737488351232) (h1 : -9223372036854775808 ≤ size) (h2 : size ≤ 9223372036854775807) :
    Calls Try.prog 62 #[.slice ao la ca, .int .i64 size] w fun e w' => e = .returned (.tuple #[.int .u64 (getN xs size), .bool (okG xs size)]) ∧ w = w' := by
  have e1 := ha.len_eq
  have e2 := ha.le
  have e3 := ha.top
  by_cases hb : size < 0 ∨ 8 < size ∨ la < size
  · have hok : Hid (okG xs size = false) := by show _ = _; simp [okG]; omega
    have hn : Hid (getN xs size = 0) := by show _ = _; simp [getN, hok.out]
    go_enter Try.func62, Try.ntmps62
    go_wp2
    all_goals go_ret2
    all_goals exact ⟨ret_get hn.out.symm hok.out.symm, rfl⟩
  · obtain ⟨k, rfl⟩ : ∃ k : Nat, size = (k : Int) := ⟨size.toNat, by omega⟩
    have hok : Hid (okG xs k = true) := by show _ = _; simp [okG]; omega
    have hn : Hid (getN xs k = val (xs.take k)) := by show _ = _; simp [getN, hok.out]
    by_cases h0 : k = 0
    · subst h0
      go_enter Try.func62, Try.ntmps62
      go_wp2
      refine wp_loop_rounds 1 ?_
      rw [rounds_succ]
      go_wp2
      go_ret2
      exact ⟨ret_get (by rw [hn.out]; rfl) hok.out.symm, rfl⟩
    · obtain ⟨ab, af, rfl, hca⟩ := ha.head (by omega)
      go_enter Try.func62, Try.ntmps62
      go_wp2
      go_loop [6, 7] (fun n i => ∃ (m : Int) (j : Nat), j ≤ k ∧ i = .int .i64 j ∧ n = .int .u64 m ∧ Hid (m = val (xs.take j))) (fun _ i => k - (intOf i).toNat)
      case atStart => exact ⟨0, 0, by omega, rfl, rfl, rfl⟩
      case round =>
        obtain ⟨m, j, hj, rfl, rfl, hm⟩ := hrel
        by_cases hk : j < k
        · have c1 := hca j (by omega)
          have r1 := ha.rngAt j
          have hs := val_succ xs j (by omega)
          generalize hx : xs.getD j 0 = x at c1 r1 hs
          go_wp2
          go_round
          case rel => exact ⟨joinB m x, j + 1, by omega, by go_num, rfl, by rw [hs, ← hm.out]; rfl⟩
          case measure => simp [intOf]; omega
        · have hjk : j = k := by omega
          go_wp2
          go_ret2
          exact ⟨ret_get (by rw [hn.out, hm.out, hjk]) hok.out.symm, rfl⟩

theorem tmod_rng (n b : Int) (hb : 0 < b) : -b < n.tmod b ∧ n.tmod b < b := by
  refine ⟨?_, Int.tmod_lt_of_pos n hb⟩
  have := Int.tmod_lt_of_pos (-n) hb
  rw [Int.neg_tmod] at this
  omega

/-- What Within answers. -/
def wfun (n lo hi : Int) : Int := if lo ≤ n ∧ n ≤ hi then n else lo + (if n.tmod (hi - lo + 1) < 0 then n.tmod (hi - lo + 1) + hi - lo + 1 else n.tmod (hi - lo + 1))

theorem wfun_rng (n lo hi : Int) (h : lo ≤ hi) : lo ≤ wfun n lo hi ∧ wfun n lo hi ≤ hi := by
  have t := tmod_rng n (hi - lo + 1) (by omega)
  unfold wfun
  split
  · assumption
  · split <;> omega

theorem within_eq (n lo hi : Int) (h1 : -9223372036854775808 ≤ n) (h2 : n ≤ 9223372036854775807) (l1 : -1000000 ≤ lo) (l2 : lo ≤ hi) (l3 : hi ≤ 1000000000) (w : World) :
    Calls Try.prog 16 #[.int .i64 n, .int .i64 lo, .int .i64 hi] w fun e w' => e = .returned (.int .i64 (wfun n lo hi)) ∧ w = w' := by
  have t := tmod_rng n (hi - lo + 1) (by omega)
  have hne : ¬ hi - lo + 1 = 0 := by omega
  have hne' : ((hi - lo + 1 : Int) == 0) = false := by simp; omega
  have hw : ∀ v, (v = wfun n lo hi) → Ending.returned (.int .i64 v) = .returned (.int .i64 (wfun n lo hi)) := fun v h => by rw [h]
  have hd : Hid (wfun n lo hi = if lo ≤ n ∧ n ≤ hi then n else lo + (if n.tmod (hi - lo + 1) < 0 then n.tmod (hi - lo + 1) + hi - lo + 1 else n.tmod (hi - lo + 1))) := rfl
  generalize wfun n lo hi = R at *
  go_enter Try.func16, Try.ntmps16
  go_wp2
  all_goals go_ret
  all_goals refine ⟨hw _ ?_, rfl⟩
  all_goals (rw [hd.out]; (repeat split) <;> omega)
end

section
set_option maxRecDepth 100000
open Go.RowKit

theorem set_mid (xs tail : List Int) (r : Nat) (x : Int) (la : Nat) (h : xs.length = la) : (xs ++ List.replicate (r + 1) 0 ++ tail).set (la + r) x = xs ++ List.replicate r 0 ++ (x :: tail) := by
  subst h
  rw [List.append_assoc, List.set_append_right _ _ (by omega), Nat.add_sub_cancel_left, List.append_assoc, List.replicate_succ', List.append_assoc, List.set_append_right _ _ (by simp)]
  simp

/-- What holds at each round's head of Put's loop: q places stand yet to be written or are the text's own. -/
structure PutRel (w wr : World) (g la k : Nat) (xs : List Int) (n : Int) (q : Nat) (m : Int) : Prop where
  hq1 : la ≤ q
  hq2 : q ≤ la + k
  m1 : 0 ≤ m
  m2 : m < 18446744073709551616
  row : ∃ tail, low k n = low (q - la) m ++ tail ∧ Row wr g (xs ++ List.replicate (q - la) 0 ++ tail)
  below : Below w.heap.size w wr

theorem putRel_start {w wr : World} {g la k N : Nat} {xs : List Int} {n : Int} (hr : Row wr g (xs.take N ++ (List.replicate N 0).drop xs.length)) (hb : Below w.heap.size w wr) (hl : xs.length = la) (hN : N = la + k) (n1 : 0 ≤ n) (n2 : n < 18446744073709551616) :
    PutRel w wr g la k xs n N n := by
  subst hN
  refine ⟨by omega, by omega, n1, n2, ⟨[], ?_, ?_⟩, hb⟩
  · simp
  · rw [List.take_of_length_le (by omega), List.drop_replicate, hl, Nat.add_sub_cancel_left] at hr
    simpa using hr

theorem PutRel.step {w wr : World} {la k : Nat} {g : Nat} {xs : List Int} {n : Int} {p : Nat} {m : Int} (h : PutRel w wr g la k xs n (p + 1) m) (hl : xs.length = la) (hp : la ≤ p) (hg : w.heap.size ≤ g) :
    PutRel w (wr.setCell ⟨g, p, none⟩ (.int .u8 (m % 256))) g la k xs n p (m / 256) := by
  obtain ⟨tail, ht, hr⟩ := h.row
  refine ⟨hp, by have := h.hq2; omega, by have := h.m1; omega, by have := h.m1; have := h.m2; omega, ⟨m % 256 :: tail, ?_, ?_⟩, h.below.setCell hg _⟩
  · rw [ht, show p + 1 - la = (p - la) + 1 by omega, low_snoc]; simp
  · have := hr.set p (m % 256)
    rw [show p + 1 - la = (p - la) + 1 by omega] at this
    have e := set_mid xs tail (p - la) (m % 256) la hl
    rw [show la + (p - la) = p by omega] at e
    rwa [e] at this

theorem PutRel.cell {w wr : World} {la k : Nat} {g : Nat} {xs : List Int} {n : Int} {q : Nat} {m : Int} (h : PutRel w wr g la k xs n q m) (hl : xs.length = la) (p : Nat) (hp : p < la + k) :
    ∃ x, wr.cell? ⟨g, p, none⟩ = some (.int .u8 x) := by
  obtain ⟨tail, ht, hr⟩ := h.row
  have hlen : tail.length + (q - la) = k := by
    have := congrArg List.length ht
    rw [List.length_append, length_low, length_low] at this
    omega
  have := h.hq1
  exact ⟨_, hr.cell p (by simp [hl]; omega)⟩

theorem PutRel.free {w wr : World} {la k : Nat} {g : Nat} {xs : List Int} {n : Int} {q : Nat} {m : Int} (h : PutRel w wr g la k xs n q m) (p : Nat) : wr.frozen? ⟨g, p, none⟩ = false := by
  obtain ⟨tail, ht, hr⟩ := h.row
  exact hr.free p

theorem PutRel.done {w wr : World} {la k : Nat} {g : Nat} {xs : List Int} {n : Int} {q : Nat} {m : Int} (h : PutRel w wr g la k xs n q m) (hl : xs.length = la) (hq : q = la) (hs : la + k ≤ 1000000000) (hr : ∀ n ∈ xs, 0 ≤ n ∧ n ≤ 255) :
    Tx wr (some ⟨g, 0, none⟩) (la + k) (la + k) (xs ++ low k n) := by
  obtain ⟨tail, ht, hrow⟩ := h.row
  subst hq
  simp [low] at ht hrow
  subst ht
  refine hrow.tx (q + k) (by simp [hl, length_low]) hs (fun x hx => ?_)
  rcases List.mem_append.1 hx with hx | hx
  · exact hr x hx
  · exact low_rng n k x hx

theorem put_any (ao : Option Addr) (la ca : Nat) (n size : Int) (xs : List Int) (w : World) (ha : Tx w ao la ca xs) (sa : la ≤ 900000000) (n1 : 0 ≤ n) (n2 : n < 18446744073709551616)
    (h1 : -9223372036854775808 ≤ size) (h2 : size ≤ 9223372036854775807) :
    Calls Try.prog 36 #[.slice ao la ca, .int .u64 n, .int .i64 size] w fun e w' => ∃ bo lb cb, e = .returned (.slice bo lb cb) ∧ Tx w' bo lb cb (xs ++ low (clampN size) n) ∧ Below w.heap.size w w' := by
  have e1 := ha.len_eq
  have hk := clampN_cast size
  have hk8 := clampN_le size
  generalize clampN size = k at hk hk8
  obtain ⟨N, hN⟩ : ∃ N, Hid (N = la + k) := ⟨_, rfl⟩
  have hNo := hN.out
  have hN1 : N ≤ la + k := by omega
  have hN2 : la + k ≤ N := by omega
  clear hNo
  have hsz : (size < 0 ∧ k ≤ 0) ∨ (size = 0 ∧ k ≤ 0) ∨ (0 < size ∧ size ≤ 8 ∧ size = k) ∨ (8 < size ∧ 8 ≤ k) := by omega
  clear hk
  rcases hsz with ⟨s1, k0⟩ | ⟨rfl, k0⟩ | ⟨s1, s2, rfl⟩ | ⟨s1, k0⟩
  all_goals
    go_enter Try.func36, Try.ntmps36
    go_wp2_with (first | (at_make; refine wpList_make_bytes w rfl _ _ rfl _ _ _ _ N rfl rfl (by omega) (by omega) (by omega) ?_; intro w1 hrow1 hb1) | (with_reducible show wpList _ _ _ (⟨some 19, _, _, _, _, _⟩ :: _) _ _; refine wpList_copy_bytes w1 rfl _ _ rfl w.heap.size N _ rfl hrow1 (by simp) ao la ca xs rfl (ha.later hb1) w.heap.size w hb1 (Nat.le_refl _) ?_; intro w2 hrow2 hb2))
    go_loopw [1, 8] (fun n' i wr => ∃ (q : Nat) (m : Int), i = .int .i64 ((q : Int) - 1) ∧ n' = .int .u64 m ∧ PutRel w wr w.heap.size la k xs n q m) (fun _ i _ => (intOf i + 1).toNat)
    case atStart => exact ⟨N, n, rfl, rfl, putRel_start hrow2.out hb2 e1 hN.out n1 n2⟩
    case round =>
      obtain ⟨q, m, rfl, rfl, hput⟩ := hrel
      have q1 := hput.hq1
      have q2 := hput.hq2
      have m1 := hput.m1
      have m2 := hput.m2
      by_cases hq : la < q
      · obtain ⟨p, rfl⟩ : ∃ p, q = p + 1 := ⟨q - 1, by omega⟩
        have ei : ((p + 1 : Nat) : Int) - 1 = p := by omega
        rw [ei]
        obtain ⟨x, hcell⟩ := hput.cell e1 p (by omega)
        have hfree := hput.free p
        have hst := hput.step e1 (by omega) (Nat.le_refl _)
        first
          | (exfalso; omega)
          | (go_wp2
             go_roundw
             case rel => exact ⟨p, m / 256, rfl, rfl, hst⟩
             case measure => simp [intOf])
      · go_wp2
        go_ret
        exact ⟨_, _, _, rfl, by rw [hN.out]; exact hput.done e1 (by omega) (by omega) ha.rng, hput.below⟩
end

section
set_option maxRecDepth 100000
open Go.RowKit

theorem own_empty (w : World) : (w.alloc (.cells #[] 5)).ownsRow w.heap.size 5 1 (.slice (some ⟨w.heap.size, 0, none⟩) 0 0) 0 (([] : List Int).map (Value.int .u8)) :=
  World.ownsRow_made w #[] 0 (Nat.le_refl _) (by unfold maxLen; omega) rfl

theorem Tx.alloc {w : World} {ao : Option Addr} {len cap : Nat} {xs : List Int} (h : Tx w ao len cap xs) (o : Obj) : Tx (w.alloc o) ao len cap xs := h.later ((Below.refl _ _).alloc (Nat.le_refl _) o)

theorem own_head {w : World} {base n cap : Nat} {ao : Option Addr} {xs : List Value} (h : w.ownsRow base 5 1 (.slice ao n cap) n xs) (hn : 0 < n) : ∃ g, ao = some ⟨g, 0, none⟩ ∧ base ≤ g := by
  obtain ⟨_, ⟨h', h0⟩ | ⟨g, c, cur, h', hb, _⟩⟩ := h
  · omega
  · simp only [Value.slice.injEq] at h'
    exact ⟨g, h'.1, hb⟩

theorem tx_one (w : World) (x : Int) (h : 0 ≤ x ∧ x ≤ 255) : Tx (w.alloc (.cells #[.int .u8 x] 5)) (some ⟨w.heap.size, 0, none⟩) 1 1 [x] := by
  have hr : Row (w.alloc (.cells #[.int .u8 x] 5)) w.heap.size [x] := heap_alloc_new w _
  exact hr.tx 1 rfl (by omega) (by simpa using h)

theorem byte_rng (m : Int) : 0 ≤ m % 256 ∧ m % 256 ≤ 255 := by omega

theorem pow_byte (n : Int) (p : Nat) : n / 2 ^ (8 * p) % 256 = n / 256 ^ p % 256 := by rw [Int.pow_mul]; rfl

/-- What holds at each round's head: q bytes are yet to come. -/
structure RefPut (w wr : World) (k : Nat) (xs : List Int) (n : Int) (q : Nat) (ao : Option Addr) (l cap : Nat) (zs : List Int) : Prop where
  hq : q ≤ k
  own : wr.ownsRow w.heap.size 5 1 (.slice ao l cap) l (zs.map (Value.int .u8))
  rng : ∀ n ∈ zs, 0 ≤ n ∧ n ≤ 255
  eq : zs ++ low q n = xs ++ low k n
  below : Below w.heap.size w wr

theorem RefPut.tx {w wr : World} {k : Nat} {xs : List Int} {n : Int} {ao : Option Addr} {l cap : Nat} {zs : List Int} (h : RefPut w wr k xs n 0 ao l cap zs) : Tx wr ao l cap (xs ++ low k n) := by
  obtain ⟨ao2, cap2, e, ht⟩ := Tx.own h.own h.rng
  simp only [Value.slice.injEq, true_and] at e
  obtain ⟨rfl, rfl⟩ := e
  have := h.eq
  simp [low] at this
  rw [← this]; exact ht

theorem RefPut.step {w wr w' : World} {k : Nat} {xs : List Int} {n : Int} {p : Nat} {ao ao' : Option Addr} {l cap l' cap' : Nat} {zs : List Int} (h : RefPut w wr k xs n (p + 1) ao l cap zs) {x : Int} (hx : x = n / 256 ^ p % 256)
    (hown : w'.ownsRow w.heap.size 5 1 (.slice ao' l' cap') l' ((zs ++ [x]).map (Value.int .u8))) (hb : Below w.heap.size w w') : RefPut w w' k xs n p ao' l' cap' (zs ++ [x]) := by
  refine ⟨by have := h.hq; omega, hown, fun y hy => ?_, ?_, hb⟩
  · rcases List.mem_append.1 hy with hy | hy
    · exact h.rng y hy
    · simp at hy; omega
  · rw [← h.eq, List.append_assoc, hx]; rfl

theorem RefPut.len {w wr : World} {k q : Nat} {xs : List Int} {n : Int} {ao : Option Addr} {l cap : Nat} {zs : List Int} (h : RefPut w wr k xs n q ao l cap zs) : l + q = xs.length + k := by
  have h1 := congrArg List.length h.eq
  have h2 := h.own.1
  simp [length_low] at h1 h2
  omega

theorem refput_any (ao : Option Addr) (la ca : Nat) (n size : Int) (xs : List Int) (w : World) (ha : Tx w ao la ca xs) (sa : la ≤ 900000000) (_n1 : 0 ≤ n) (_n2 : n < 18446744073709551616)
    (h1 : -9223372036854775808 ≤ size) (h2 : size ≤ 9223372036854775807) :
    Calls Try.prog 26 #[.slice ao la ca, .int .u64 n, .int .i64 size] w fun e w' => ∃ bo lb cb, e = .returned (.slice bo lb cb) ∧ Tx w' bo lb cb (xs ++ low (clampN size) n) ∧ Below w.heap.size w w' := by
  have e1 := ha.len_eq
  have hk := clampN_cast size
  have hk8 := clampN_le size
  generalize clampN size = k at hk hk8
  have hsz : (size < 0 ∧ k ≤ 0) ∨ (size = 0 ∧ k ≤ 0) ∨ (0 < size ∧ size ≤ 8 ∧ size = k) ∨ (8 < size ∧ 8 ≤ k) := by omega
  clear hk
  rcases hsz with ⟨s1, k0⟩ | ⟨rfl, k0⟩ | ⟨s1, s2, rfl⟩ | ⟨s1, k0⟩
  all_goals
    go_enter Try.func26, Try.ntmps26
    go_wp2_with (with_reducible show wpList _ _ _ (⟨some 11, _, _, _, _, _⟩ :: _) _ _; (refine wpList_append_bytes _ rfl _ _ rfl w.heap.size (.slice (some ⟨w.heap.size, 0, none⟩) 0 0) 0 [] rfl (own_empty w) (by simp) ao la ca xs rfl (ha.alloc _) (by omega) (by simp) ?_; intro ao1 l1 cap1 w1 hl1 hown1 htx1 hb1; clear hl1))
    go_loopw [7, 8] (fun o i wr => ∃ (q : Nat) (ao' : Option Addr) (l' cap' : Nat) (zs : List Int), i = .int .i64 ((q : Int) - 1) ∧ o = .slice ao' l' cap' ∧ RefPut w wr k xs n q ao' l' cap' zs) (fun _ i _ => (intOf i + 1).toNat)
    case atStart =>
      refine ⟨k, ao1, l1, cap1, xs, by go_num, rfl, ⟨Nat.le_refl _, hown1, ha.rng, rfl, ((Below.refl w.heap.size w).alloc (Nat.le_refl _) _).trans hb1⟩⟩
    case round =>
      obtain ⟨q, ao', l', cap', zs, rfl, rfl, hput⟩ := hrel
      have q2 := hput.hq
      by_cases hq : 0 < q
      · obtain ⟨p, rfl⟩ : ∃ p, q = p + 1 := ⟨q - 1, by omega⟩
        have ei : ((p + 1 : Nat) : Int) - 1 = p := by omega
        rw [ei]
        first
          | (exfalso; omega)
          | (have hbs := hput.below.size
             have hlen := hput.len
             have hle : l' + 1 ≤ 1000000000 := by omega
             clear hlen
             go_wp2_with (with_reducible show wpList _ _ _ (⟨some 29, _, _, _, _, _⟩ :: _) _ _; refine wpList_append_bytes _ rfl _ _ rfl w.heap.size (.slice ao' l' cap') l' zs rfl (hput.own.alloc _) hput.rng (some ⟨wr.heap.size, 0, none⟩) 1 1 [n / 2 ^ (8 * p) % 256] rfl (tx_one wr _ (byte_rng _)) hle (by simp; omega) ?_; intro ao2 l2 cap2 w2 hl2 hown2 htx2 hb2; clear hl2)
             go_roundw
             case rel => exact ⟨p, ao2, l2, cap2, _, by go_num, rfl, hput.step (pow_byte n p) hown2 ((hput.below.alloc hbs _).trans hb2)⟩
             case measure => simp [intOf])
      · obtain rfl : q = 0 := by omega
        go_wp2
        go_ret
        exact ⟨_, _, _, rfl, hput.tx, hput.below⟩
end

section
set_option maxRecDepth 100000
open Go.RowKit

theorem joinB_eq (v c : Int) (hv : 0 ≤ v) (hv2 : v < 72057594037927936) (hc : 0 ≤ c) (hc2 : c < 256) : joinB v c = v * 256 + c := by
  have hw : IntKind.u64.wrap (v * 256) = v * 256 := by rw [IntKind.wrap_u64]; omega
  rw [joinB, hw]
  exact bits_join .u64 64 (by decide) (fun n h0 h1 => by rw [IntKind.wrap_u64]; omega) 8 (v * 256) c (by omega) (by omega) (by omega) hc (by omega) (by omega)

theorem mod_step (n P : Int) (hP : 0 < P) : n / 256 % P * 256 + n % 256 = n % (P * 256) := by
  have h1 := Int.emod_nonneg (n / 256) (show P ≠ 0 by omega)
  have h2 := Int.emod_lt_of_pos (n / 256) hP
  have h3 := Int.mul_ediv_add_emod (n / 256) P
  have h4 := Int.mul_ediv_add_emod n 256
  have h5 := Int.emod_nonneg n (show (256 : Int) ≠ 0 by decide)
  have h6 := Int.emod_lt_of_pos n (show (0 : Int) < 256 by decide)
  generalize n / 256 % P = b at *
  generalize n / 256 / P = a at *
  generalize n % 256 = r at *
  generalize n / 256 = q at *
  have e : n = (b * 256 + r) + P * 256 * a := by grind
  rw [e, Int.add_mul_emod_self_left, Int.emod_eq_of_lt (by omega) (by omega)]

theorem val_low : ∀ (k : Nat), k ≤ 8 → ∀ n : Int, val (low k n) = n % 256 ^ k
  | 0, _, n => by simp [low, val]
  | k + 1, hk, n => by
    have ih := val_low k (by omega) (n / 256)
    rw [low_snoc, val, List.foldl_append]
    show joinB (val (low k (n / 256))) (n % 256) = _
    have hp : (0 : Int) < 256 ^ k := Int.pow_pos (by decide)
    have hpk : (256 : Int) ^ k ≤ 72057594037927936 := by
      have := Int.ofNat_le.2 (Nat.pow_le_pow_right (show 256 > 0 by decide) (show k ≤ 7 by omega))
      simpa using this
    have h1 := Int.emod_nonneg (n / 256) (show (256 : Int) ^ k ≠ 0 by omega)
    have h2 := Int.emod_lt_of_pos (n / 256) hp
    rw [ih, joinB_eq _ _ h1 (by omega) (by omega) (by omega), Int.pow_succ]
    exact mod_step n _ hp

theorem getN_low (k : Nat) (n : Int) (hk : k ≤ 8) (ys : List Int) : okG (low k n ++ ys) k = true ∧ getN (low k n ++ ys) k = n % 256 ^ k := by
  have h : okG (low k n ++ ys) k = true := by simp [okG, length_low]; omega
  refine ⟨h, ?_⟩
  rw [getN, if_pos h, Int.toNat_natCast, List.take_append_of_le_length (by simp [length_low]), List.take_of_length_le (by simp [length_low]), val_low k hk]

theorem getN_short (k : Nat) (xs : List Int) (h : xs.length < k) : okG xs k = false ∧ getN xs k = 0 := by
  have h : okG xs k = false := by simp [okG]; omega
  exact ⟨h, by simp [getN, h]⟩
end

section
set_option maxRecDepth 100000
open Go.RowKit


theorem shared_any (ao bo : Option Addr) (la ca lb cb : Nat) (xs ys : List Int) (w : World) (ha : Tx w ao la ca xs) (hb : Tx w bo lb cb ys) (sa : la ≤ 140737488351232) (sb : lb ≤ 140737488351232) :
    Calls Try.prog 60 #[.slice ao la ca, .slice bo lb cb] w fun e w' => e = .returned (.int .i64 (shared xs ys)) ∧ Below w.heap.size w w' := by
  have e1 := ha.len_eq
  have e2 := hb.len_eq
  by_cases h0 : 0 < la ∧ 0 < lb
  · obtain ⟨ab, af, rfl, hca⟩ := ha.head h0.1
    obtain ⟨bb, bf, rfl, hcb⟩ := hb.head h0.2
    go_enter Try.func60, Try.ntmps60
    go_wp2
    all_goals
      go_loopw [6, 13] (fun _ i wr => ∃ k : Nat, k ≤ la ∧ k ≤ lb ∧ i = .int .i64 k ∧ Hid (∀ j, j < k → xs.getD j 0 = ys.getD j 0) ∧ Below w.heap.size w wr) (fun _ i _ => la - (intOf i).toNat)
      case atStart => exact ⟨0, by omega, by omega, rfl, fun j hj => (by omega), Below.refl _ _⟩
      case round =>
        obtain ⟨k, hka, hkb, rfl, heq, hbel⟩ := hrel
        by_cases hk : k < la ∧ k < lb
        · have c1 := cell_later hbel (hca k hk.1)
          have c2 := cell_later hbel (hcb k hk.2)
          have r1 := ha.rngAt k
          have r2 := hb.rngAt k
          generalize hx : xs.getD k 0 = x at c1 r1
          generalize hy : ys.getD k 0 = y at c2 r2
          by_cases hxy : x = y
          · have h1 : (x != y) = false := by simp [hxy]
            go_wp2
            go_quiet (fail)
            go_wp2
            go_roundw
            case rel =>
              refine ⟨k + 1, by omega, by omega, by go_num, fun j hj => ?_, below_drewN hbel _⟩
              by_cases hjk : j = k
              · subst hjk; rw [hx, hy, hxy]
              · exact heq j (by omega)
            case measure => simp [intOf]; omega
          · have h1 : (x != y) = true := by simp [hxy]
            go_wp2
            go_quiet (fail)
            go_wp2
            go_ret
            exact ⟨ret_int (by rw [shared_eq xs ys k (by omega) (by omega) heq (.inr (.inr (by rw [hx, hy]; exact hxy)))]), below_drewN hbel _⟩
        · go_wp2
          go_ret
          exact ⟨ret_int (by rw [shared_eq xs ys k (by omega) (by omega) heq (by omega)]; omega), hbel⟩
  · have hz : shared xs ys = 0 := by have := shared_le xs ys; omega
    go_enter Try.func60, Try.ntmps60
    go_wp2
    all_goals
      refine wp_loop_rounds 1 ?_
      rw [rounds_succ]
      go_wp2
      go_ret
      exact ⟨ret_int (by rw [hz]; omega), Below.refl _ _⟩
end

section
set_option maxRecDepth 100000
open Go.RowKit

theorem less_any (ao bo : Option Addr) (la ca lb cb : Nat) (xs ys : List Int) (w : World) (ha : Tx w ao la ca xs) (hb : Tx w bo lb cb ys) (sa : la ≤ 140737488351232) (sb : lb ≤ 140737488351232) :
    Calls Try.prog 35 #[.slice ao la ca, .slice bo lb cb] w fun e w' => e = .returned (.bool (lessB xs ys)) ∧ Below w.heap.size w w' := by
  have e1 := ha.len_eq
  have e2 := hb.len_eq
  have hs := shared_le xs ys
  have hend := lessB_end xs ys
  have hat := lessB_at xs ys
  have hsh := shared_any ao bo la ca lb cb xs ys w ha hb sa sb
  generalize shared xs ys = k at hs hend hat hsh
  by_cases h0 : k = la ∨ k = lb
  · by_cases h1 : k = la
    · have t1 : ((k : Int) == (la : Int)) = true := by simp [h1]
      go_enter Try.func35, Try.ntmps35
      go_wp2_with (go_at_call 60; with_reducible refine hsh.mono ?_; rintro e w1 ⟨rfl, hb1⟩)
      go_ret
      exact ⟨ret_bool (by rw [hend (by omega), e1, e2]), hb1⟩
    · have t1 : ((k : Int) == (la : Int)) = false := by simp; omega
      have t2 : ((k : Int) == (lb : Int)) = true := by simp; omega
      go_enter Try.func35, Try.ntmps35
      go_wp2_with (go_at_call 60; with_reducible refine hsh.mono ?_; rintro e w1 ⟨rfl, hb1⟩)
      go_ret
      exact ⟨ret_bool (by rw [hend (by omega), e1, e2]), hb1⟩
  · obtain ⟨ab, af, rfl, hca⟩ := ha.head (by omega)
    obtain ⟨bb, bf, rfl, hcb⟩ := hb.head (by omega)
    have c1 := hca k (by omega)
    have c2 := hcb k (by omega)
    have t1 : ((k : Int) == (la : Int)) = false := by simp; omega
    have t2 : ((k : Int) == (lb : Int)) = false := by simp; omega
    generalize hx : xs.getD k 0 = x at c1 hat
    generalize hy : ys.getD k 0 = y at c2 hat
    go_enter Try.func35, Try.ntmps35
    go_wp2_with (go_at_call 60; with_reducible refine hsh.mono ?_; rintro e w1 ⟨rfl, hb1⟩; have d1 := cell_later hb1 c1; have d2 := cell_later hb1 c2)
    go_quiet (fail)
    go_wp2
    go_ret
    exact ⟨ret_bool (by rw [hat (by omega) (by omega)]), below_drewN hb1 _⟩
end

section
set_option maxRecDepth 100000
open Go.RowKit

theorem bytes_lt (x y : Int) (hx : 0 ≤ x ∧ x ≤ 255) (hy : 0 ≤ y ∧ y ≤ 255) : decide (UInt8.ofNat x.toNat < UInt8.ofNat y.toNat) = decide (x < y) := by
  have : (UInt8.ofNat x.toNat < UInt8.ofNat y.toNat) ↔ x < y := by
    rw [UInt8.lt_iff_toNat_lt]; simp only [UInt8.toNat_ofNat']; omega
  simp [this]
theorem bytes_eq (x y : Int) (hx : 0 ≤ x ∧ x ≤ 255) (hy : 0 ≤ y ∧ y ≤ 255) : (UInt8.ofNat x.toNat == UInt8.ofNat y.toNat) = (x == y) := by
  have : (UInt8.ofNat x.toNat = UInt8.ofNat y.toNat) ↔ x = y := by
    rw [← UInt8.toNat_inj]; simp only [UInt8.toNat_ofNat']; omega
  rw [Bool.eq_iff_iff]; simp [this]

theorem bytesLess_nums : ∀ (xs ys : List Int), (∀ n ∈ xs, 0 ≤ n ∧ n ≤ 255) → (∀ n ∈ ys, 0 ≤ n ∧ n ≤ 255) →
    Op.bytesLess (xs.map fun n => UInt8.ofNat n.toNat) (ys.map fun n => UInt8.ofNat n.toNat) = lessB xs ys
  | xs, [], _, _ => by cases xs <;> simp [Op.bytesLess, lessB]
  | [], y :: ys, _, _ => by simp [Op.bytesLess, lessB]
  | x :: xs, y :: ys, hx, hy => by
    have h := bytesLess_nums xs ys (fun n hn => hx n (by simp [hn])) (fun n hn => hy n (by simp [hn]))
    have a := bytes_lt x y (hx x (by simp)) (hy y (by simp))
    have b := bytes_eq x y (hx x (by simp)) (hy y (by simp))
    simp only [List.map_cons, Op.bytesLess, lessB, h, a, b]

theorem refshared_any (ao bo : Option Addr) (la ca lb cb : Nat) (xs ys : List Int) (w : World) (ha : Tx w ao la ca xs) (hb : Tx w bo lb cb ys) (sa : la ≤ 140737488351232) (sb : lb ≤ 140737488351232) :
    Calls Try.prog 27 #[.slice ao la ca, .slice bo lb cb] w fun e w' => e = .returned (.int .i64 (shared xs ys)) ∧ Below w.heap.size w w' := by
  have e1 := ha.len_eq
  have e2 := hb.len_eq
  by_cases h0 : 0 < la ∧ 0 < lb
  · obtain ⟨ab, af, rfl, hca⟩ := ha.head h0.1
    obtain ⟨bb, bf, rfl, hcb⟩ := hb.head h0.2
    go_enter Try.func27, Try.ntmps27
    go_wp2
    go_loopw [5] (fun i wr => ∃ k : Nat, k ≤ la ∧ k ≤ lb ∧ i = .int .i64 k ∧ Hid (∀ j, j < k → xs.getD j 0 = ys.getD j 0) ∧ Below w.heap.size w wr) (fun i _ => la - (intOf i).toNat)
    case atStart => exact ⟨0, by omega, by omega, rfl, fun j hj => (by omega), Below.refl _ _⟩
    case round =>
      obtain ⟨k, hka, hkb, rfl, heq, hbel⟩ := hrel
      by_cases hk : k < la ∧ k < lb
      · have k1 := hk.1
        have k2 := hk.2
        have c1 := cell_later hbel (hca k hk.1)
        have c2 := cell_later hbel (hcb k hk.2)
        have r1 := ha.rngAt k
        have r2 := hb.rngAt k
        generalize hx : xs.getD k 0 = x at c1 r1
        generalize hy : ys.getD k 0 = y at c2 r2
        by_cases hxy : x = y
        · have h1 : (x == y) = true := by simp [hxy]
          go_wp2
          go_quiet (fail)
          go_wp2
          go_roundw
          case rel =>
            refine ⟨k + 1, by omega, by omega, by go_num, fun j hj => ?_, below_drewN hbel _⟩
            by_cases hjk : j = k
            · subst hjk; rw [hx, hy, hxy]
            · exact heq j (by omega)
          case measure => simp [intOf]; omega
        · have h1 : (x == y) = false := by simp [hxy]
          go_wp2
          go_quiet (fail)
          go_wp2
          go_ret
          exact ⟨ret_int (by rw [shared_eq xs ys k (by omega) (by omega) heq (.inr (.inr (by rw [hx, hy]; exact hxy)))]), below_drewN hbel _⟩
      · by_cases k1 : k < la
        · have k2 : ¬ k < lb := by omega
          go_wp2
          go_quiet (fail)
          go_wp2
          go_ret
          exact ⟨ret_int (by rw [shared_eq xs ys k (by omega) (by omega) heq (by omega)]), below_drewN hbel _⟩
        · go_wp2
          go_quiet (fail)
          go_wp2
          go_ret
          exact ⟨ret_int (by rw [shared_eq xs ys k (by omega) (by omega) heq (by omega)]), below_drewN hbel _⟩
  · have hz : shared xs ys = 0 := by have := shared_le xs ys; omega
    go_enter Try.func27, Try.ntmps27
    go_wp2
    refine wp_loop_rounds 1 ?_
    rw [rounds_succ]
    by_cases k1 : 0 < la
    · have k2 : ¬ 0 < lb := by omega
      go_wp2
      go_quiet (fail)
      go_wp2
      go_ret
      exact ⟨ret_int (by rw [hz]; omega), below_drewN (Below.refl _ _) _⟩
    · go_wp2
      go_quiet (fail)
      go_wp2
      go_ret
      exact ⟨ret_int (by rw [hz]; omega), below_drewN (Below.refl _ _) _⟩
end

end Go.Proofs.Yteeemfohehpaeaa
