/- A row of files, three cells each: what copy, clear and append do to it. The walk of slices.Delete. -/
import Derived.Test.YtgleblfkcdkaeaaDoorDLawApp
import Derived.Lib.SliceRun
import Derived.Lib.Overlaps
import Derived.Lib.AppendZerosOnto
import Derived.Laws.Externs
namespace Go.Proofs.YtgleblfkcdkaeaaDoor

section
open Go.RowKit

def fzero : Value := .agg #[.string ⟨#[]⟩, .slice none 0 0, .int .i64 0]
def fz : List Value := [.string ⟨#[]⟩, .slice none 0 0, .int .i64 0]
theorem Tryd.info76 : (Tryd.prog.info? 76).map (fun i => (i.zero, i.size, i.bytes)) = some (some fzero, 3, 48) := by kernel_rfl
theorem Tryd.zero76 (w : World) : (zeroValue 76).run Tryd.prog w = .ok fzero w := by kernel_rfl
theorem Tryd.size76 (w : World) : (Go.sizeOf 76).run Tryd.prog w = .ok 3 w := by kernel_rfl

/-- Block b is the row cur. -/
def Blk (w : World) (b : Nat) (cur : List Value) : Prop := w.heap[b]? = some (.cells cur.toArray 76 (0, 0))

theorem Blk.cell {w : World} {b : Nat} {cur : List Value} (h : Blk w b cur) (j : Nat) (v : Value) (hj : cur[j]? = some v) : w.cell? ⟨b, j, none⟩ = some v := by
  rw [cell_of_row w b j _ 76 (0, 0) h]; simpa using hj
theorem Blk.there {w : World} {b : Nat} {cur : List Value} (h : Blk w b cur) (j : Nat) (hj : j < cur.length) : (w.cell? ⟨b, j, none⟩).isSome = true := by
  rw [h.cell j _ (List.getElem?_eq_getElem hj)]; rfl
theorem Blk.free {w : World} {b : Nat} {cur : List Value} (h : Blk w b cur) (j : Nat) : w.frozen? ⟨b, j, none⟩ = false := frozen_of_row w b j _ 76 h
theorem Blk.drew {w : World} {b : Nat} {cur : List Value} (h : Blk w b cur) : Blk w.drew b cur := h

theorem Blk.setCells {b : Nat} : ∀ (vs : List Value) (o : Nat) {w : World} {cur : List Value}, Blk w b cur → o + vs.length ≤ cur.length → Blk (w.setCells b o vs) b (splice cur o vs)
  | [], o, w, cur, h, _ => by simpa [World.setCells, splice] using h
  | v :: vs, o, w, cur, h, hl => by
    have h1 : Blk (w.setCell ⟨b, o, none⟩ v) b (cur.set o v) := by
      unfold Blk
      rw [heap_setCell_same w b o _ 76 _ h]
      simp
    have := Blk.setCells vs (o + 1) h1 (by simp at hl ⊢; omega)
    rw [World.setCells]
    suffices e : splice cur o (v :: vs) = splice (cur.set o v) (o + 1) vs by rw [e]; exact this
    have hl' : o < cur.length := by simp at hl; omega
    have t : (cur.set o v).take (o + 1) = cur.take o ++ [v] := by
      rw [List.take_succ_eq_append_getElem (by simp; omega)]
      simp [List.take_set_of_le]
    have dd : (cur.set o v).drop (o + 1 + vs.length) = cur.drop (o + 1 + vs.length) := List.drop_set_of_lt (by omega)
    simp only [splice, t, dd, List.length_cons, List.append_assoc, List.cons_append, List.nil_append]
    rw [show o + (vs.length + 1) = o + 1 + vs.length by omega]

theorem off_setCells {b : Nat} {S : List Nat} (hb : b ∈ S) : ∀ (vs : List Value) (o : Nat) {a w : World}, Off S a w → Off S a (w.setCells b o vs)
  | [], _, _, _, h => h
  | v :: vs, o, _, _, h => off_setCells hb vs (o + 1) (h.setCell (p := ⟨b, o, none⟩) hb v)

/-- 'copy' of files. -/
theorem run_copy3 (w : World) (ty : TypeId) (b o dLen dCap : Nat) (a : Addr) (sLen sCap : Nat) (cs : List Value) (n : Nat) (hn : n = Nat.min sLen dLen) (hc : cs.length = n * 3)
    (hsrc : ∀ j v, cs[j]? = some v → w.cell? (a.add j) = some v) (ht : ∀ j, j < cs.length → (w.cell? ⟨b, o + j, none⟩).isSome = true) (hf : ∀ j, j < cs.length → w.frozen? ⟨b, o + j, none⟩ = false) (h1 : ∀ v ∈ cs, v.oneCell' = true) :
    (Builtin.copy_ #[71, 71] ty #[.slice (some ⟨b, o, none⟩) dLen dCap, .slice (some a) sLen sCap]).run Tryd.prog w = .ok (goInt n) (w.setCells b o cs) := by
  have hl := run_loadCells_list (P := Tryd.prog) w a cs hsrc
  have hst := run_storeCells_cells (P := Tryd.prog) b o cs 0 w (by simpa using ht) (by simpa using hf) h1
  rw [hc] at hl
  simp [Builtin.copy_, run_underlying Tryd.underlying71, Builtin.lenOf, Builtin.firstCells, ← hn, hl, hst]

/-- 'clear' of one file. -/
theorem run_clear3 (w : World) (ty : TypeId) (b o c : Nat) (ht : ∀ j, j < 3 → (w.cell? ⟨b, o + j, none⟩).isSome = true) (hf : ∀ j, j < 3 → w.frozen? ⟨b, o + j, none⟩ = false) :
    (Builtin.clear_ #[71] ty #[.slice (some ⟨b, o, none⟩) 1 c]).run Tryd.prog w = .ok (.tuple #[]) (w.setCells b o fz) := by
  have hzc : (Builtin.zeroCells (Value.agg #[Value.string { data := #[] }, Value.slice none 0 0, Value.int IntKind.i64 0]).cells 1).toList = fz := by kernel_rfl
  have hst := run_storeCells_cells (P := Tryd.prog) b o fz 0 w (by simpa [fz] using ht) (by simpa [fz] using hf) (by intro v hv; simp [fz] at hv; rcases hv with rfl | rfl | rfl <;> rfl)
  simp only [Nat.add_zero] at hst
  simp [Builtin.clear_, run_underlying Tryd.underlying71, hzc, hst]
end

section
open Go.RowKit Go.Sort

/-- A row that is owned, as a block. -/
theorem Blk.of_own {w : World} {fb n cap : Nat} {xs : List Value} (h : w.ownsRow 0 76 3 (.slice (some ⟨fb, 0, none⟩) n cap) n xs) : ∃ L, Blk w fb L ∧ L.length = cap * 3 ∧ L.take (n * 3) = xs ∧ n ≤ cap ∧ cap ≤ maxLen := by
  rcases h.2 with ⟨h', _⟩ | ⟨g, c, cur, h', _, hg, hn, hm, hs, ht⟩
  · cases h'
  · simp only [Value.slice.injEq, Option.some.injEq, Addr.mk.injEq, and_true, true_and] at h'
    obtain ⟨rfl, rfl⟩ := h'
    exact ⟨cur.toList, by unfold Blk; rw [hg], by simpa using hs, ht, hn, hm⟩
theorem Blk.own {w : World} {fb n cap : Nat} {L : List Value} (h : Blk w fb L) (hl : L.length = cap * 3) (hn : n ≤ cap) (hm : cap ≤ maxLen) : w.ownsRow 0 76 3 (.slice (some ⟨fb, 0, none⟩) n cap) n (L.take (n * 3)) :=
  ⟨by simp; omega, .inr ⟨fb, cap, L.toArray, rfl, Nat.zero_le _, h, hn, hm, by simpa using hl, rfl⟩⟩
end

end Go.Proofs.YtgleblfkcdkaeaaDoor
