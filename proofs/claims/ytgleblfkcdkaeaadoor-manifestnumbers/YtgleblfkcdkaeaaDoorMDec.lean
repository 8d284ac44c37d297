/- manifest.Decode, walked. -/
import Derived.Test.YtgleblfkcdkaeaaDoorMRight
import Derived.Test.YtgleblfkcdkaeaaDoorFWalksE
import Derived.Deep.MidRow
namespace Go.Proofs.YtgleblfkcdkaeaaDoor
set_option maxRecDepth 100000
open Go.RowKit Go.Sort

theorem num1_at (xs : List Int) (hb : Bytes xs) (h : ¬ xs.length < 1) : getN xs 1 = num1 xs := by
  match xs, h, hb with
  | x :: xs, _, hb =>
    have hx := hb.head
    have h1 : okG (x :: xs) 1 = true := by simp [okG]; omega
    unfold getN num1
    rw [if_pos h1]
    simp [val, joinB_eq 0 x (by omega) (by omega) hx.1 (by omega)]

theorem number_any (ao : Option Addr) (la ca : Nat) (xs : List Int) (w : World) (h : Tx w ao la ca xs) (hl : 3 ≤ la) (hl9 : la ≤ 1000000000) :
    Calls Tryd.prog 50 #[.slice ao la ca] w fun e w' => e = .returned (.int .i64 (num3 xs)) ∧ w = w' := by
  have hb : Bytes xs := h.rng
  have hr := num3_rng hb
  have ge := get_yes 3 3 rfl (by omega) ao la ca xs w h (by omega) hl9
  rw [show ((3 : Nat) : Int) = 3 from rfl, val3 xs hb (by have := h.len_eq; omega)] at ge
  have hw : IntKind.i64.wrap (num3 xs) = num3 xs := by rw [IntKind.wrap_i64]; omega
  generalize num3 xs = N at *
  go_enter Tryd.func50, Tryd.ntmps50
  go_wp2_with (go_at_call 49; with_reducible refine ge.mono ?_; rintro e w1 ⟨rfl, rfl⟩)
  go_ret
  exact ⟨rfl, rfl⟩

theorem results_cell1 {fn : Func} {t : Tmp} {ty : TypeId} {tmps : Array Value} {P : Program} {w : World} {a : Addr} {v : Value} (h : fn.results = #[.cell t ty]) (ha : tmps.getD t undef = .pointer (some a)) (hv : (loadVar ty a).run P w = .ok v w) :
    (results fn tmps).run P w = .ok v w := by
  have ha' : tmps[t]?.getD undef = .pointer (some a) := by simpa using ha
  simp [results, h, ha', hv, asAddr]
theorem results_cell2 {fn : Func} {t u : Tmp} {ty : TypeId} {tmps : Array Value} {P : Program} {w : World} {a : Addr} {v : Value} (h : fn.results = #[.cell t ty, .tmp u]) (ha : tmps.getD t undef = .pointer (some a)) (hv : (loadVar ty a).run P w = .ok v w) :
    (results fn tmps).run P w = .ok (.tuple #[v, tmps.getD u undef]) w := by
  have ha' : tmps[t]?.getD undef = .pointer (some a) := by simpa using ha
  simp [results, h, ha', hv, asAddr]
theorem results_cell3 {fn : Func} {t u s : Tmp} {ty : TypeId} {tmps : Array Value} {P : Program} {w : World} {a : Addr} {v : Value} (h : fn.results = #[.cell t ty, .tmp u, .tmp s]) (ha : tmps.getD t undef = .pointer (some a)) (hv : (loadVar ty a).run P w = .ok v w) :
    (results fn tmps).run P w = .ok (.tuple #[v, tmps.getD u undef, tmps.getD s undef]) w := by
  have ha' : tmps[t]?.getD undef = .pointer (some a) := by simpa using ha
  simp [results, h, ha', hv, asAddr]

theorem Tryd.info24a : (Tryd.prog.info? 24).map (·.size) = some 3 := by kernel_rfl
theorem load_man {w : World} {g : Nat} {a b c : Value} (h0 : w.cell? ⟨g, 0, none⟩ = some a) (h1 : w.cell? ⟨g, 1, none⟩ = some b) (h2 : w.cell? ⟨g, 2, none⟩ = some c) :
    (loadVar 24 ⟨g, 0, none⟩).run Tryd.prog w = .ok (.agg #[a, b, c]) w :=
  run_loadVar_mid w g 0 24 [a, b, c] _ (fun j v hv => by
    match j, hv with
    | 0, hv => cases hv; exact h0
    | 1, hv => cases hv; exact h1
    | 2, hv => cases hv; exact h2) Tryd.underlying24 rfl Tryd.info24a

/-- A variable that holds a list of tables. -/
structure Mb (w : World) (g : Nat) (a b c : Value) : Prop where
  c0 : w.cell? ⟨g, 0, none⟩ = some a
  c1 : w.cell? ⟨g, 1, none⟩ = some b
  c2 : w.cell? ⟨g, 2, none⟩ = some c
  z : ∀ k, w.frozen? ⟨g, k, none⟩ = false
theorem Mb.lt {w : World} {g : Nat} {a b c : Value} (h : Mb w g a b c) : g < w.heap.size := World.block_lt_of_cell? _ _ h.c0
theorem Mb.off {S : List Nat} {w w' : World} {g : Nat} {a b c : Value} (h : Mb w g a b c) (ho : Off S w w') (hn : g ∉ S) : Mb w' g a b c :=
  ⟨ho.cell h.c0 hn, ho.cell h.c1 hn, ho.cell h.c2 hn, fun k => by rw [World.frozen?_of_block (w := w) (ho.block g h.lt hn)]; exact h.z k⟩
theorem Mb.later {w w' : World} {g : Nat} {a b c : Value} (h : Mb w g a b c) (hb : Below w.heap.size w w') : Mb w' g a b c := h.off (S := []) (.of_below hb) (by simp)
theorem Mb.load {w : World} {g : Nat} {a b c : Value} (h : Mb w g a b c) : (loadVar 24 ⟨g, 0, none⟩).run Tryd.prog w = .ok (.agg #[a, b, c]) w := load_man h.c0 h.c1 h.c2
theorem Mb.new (w : World) (a b c : Value) : Mb (w.alloc (.cells #[a, b, c] 24)) w.heap.size a b c :=
  ⟨by rw [cell_of_row _ _ _ _ 24 (0, 0) (heap_alloc_new w _)]; rfl, by rw [cell_of_row _ _ _ _ 24 (0, 0) (heap_alloc_new w _)]; rfl, by rw [cell_of_row _ _ _ _ 24 (0, 0) (heap_alloc_new w _)]; rfl, fun k => frozen_of_row _ _ _ _ 24 (heap_alloc_new w _)⟩
theorem Mb.set0 {w : World} {g : Nat} {a b c : Value} (h : Mb w g a b c) (v : Value) : Mb (w.setCell ⟨g, 0, none⟩ v) g v b c :=
  ⟨World.cell?_setCell_same _ _ _ h.c0, by rw [World.cell?_setCell_other _ _ _ _ (by simp)]; exact h.c1, by rw [World.cell?_setCell_other _ _ _ _ (by simp)]; exact h.c2, fun k => by simpa using h.z k⟩
theorem Mb.set1 {w : World} {g : Nat} {a b c : Value} (h : Mb w g a b c) (v : Value) : Mb (w.setCell ⟨g, 1, none⟩ v) g a v c :=
  ⟨by rw [World.cell?_setCell_other _ _ _ _ (by simp)]; exact h.c0, World.cell?_setCell_same _ _ _ h.c1, by rw [World.cell?_setCell_other _ _ _ _ (by simp)]; exact h.c2, fun k => by simpa using h.z k⟩
theorem Mb.set2 {w : World} {g : Nat} {a b c : Value} (h : Mb w g a b c) (v : Value) : Mb (w.setCell ⟨g, 2, none⟩ v) g a b v :=
  ⟨by rw [World.cell?_setCell_other _ _ _ _ (by simp)]; exact h.c0, by rw [World.cell?_setCell_other _ _ _ _ (by simp)]; exact h.c1, World.cell?_setCell_same _ _ _ h.c2, fun k => by simpa using h.z k⟩

def nilMan : Value := .agg #[.slice none 0 0, .int .i64 0, .int .i64 0]

set_option maxHeartbeats 4000000 in
theorem decode_unfit (ao : Option Addr) (la ca : Nat) (xs : List Int) (w : World) (h : Tx w ao la ca xs) (hl9 : la ≤ 900000000) (hf : ¬ FitM xs) :
    Calls Tryd.prog 32 #[.slice ao la ca] w fun e w' => e = .returned (.tuple #[nilMan, .int .i64 12]) ∧ Below w.heap.size w w' := by
  have e1 := h.len_eq
  have hb : Bytes xs := h.rng
  have hbl : Below w.heap.size w (w.alloc (.cells #[.slice none 0 0, .int .i64 0, .int .i64 0] 24)) := (Below.refl _ _).alloc (Nat.le_refl _) _
  have hm := (Mb.new w (.slice none 0 0) (.int .i64 0) (.int .i64 0)).load
  by_cases h1 : la < 1
  · have ge := get_no 1 1 rfl (by omega) ao la ca xs _ (h.later hbl) h1
    go_enter Tryd.func32, Tryd.ntmps32
    go_wp2_with (go_at_call 49; with_reducible refine ge.mono ?_; rintro e w1 ⟨rfl, rfl⟩)
    try simp only [Exit.inBlock, Exit.then]
    refine bodyPost_ret (results_cell2 rfl rfl hm) rfl ?_
    exact ⟨rfl, hbl⟩
  · have ge := get_yes 1 1 rfl (by omega) ao la ca xs _ (h.later hbl) h1 (by omega)
    have hn := num1_at xs hb (by omega)
    have hr : 0 ≤ num1 xs ∧ num1 xs ≤ 255 := by
      match xs, h1, hb with
      | [], h1, _ => simp at e1; omega
      | x :: xs, _, hb => exact hb.head
    rw [show ((1 : Nat) : Int) = 1 from rfl, hn] at ge
    obtain ⟨n, hn⟩ : ∃ n : Nat, num1 xs = (n : Int) := ⟨(num1 xs).toNat, by omega⟩
    have hlen : ¬ la = 7 + 3 * n := fun e => hf ⟨by omega, by rw [hn]; simp; omega⟩
    rw [hn] at ge hr
    have hw : IntKind.i64.wrap (n : Int) = (n : Int) := by rw [IntKind.wrap_i64]; omega
    clear hn hf hb
    go_enter Tryd.func32, Tryd.ntmps32
    go_wp2_with (go_at_call 49; with_reducible refine ge.mono ?_; rintro e w1 ⟨rfl, rfl⟩)
    try simp only [Exit.inBlock, Exit.then]
    refine bodyPost_ret (results_cell2 rfl rfl hm) rfl ?_
    exact ⟨rfl, hbl⟩
end Go.Proofs.YtgleblfkcdkaeaaDoor
