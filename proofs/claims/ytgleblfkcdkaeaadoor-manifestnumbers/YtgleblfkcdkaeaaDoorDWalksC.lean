/- The walks of Used, bytes.Clone, strings.Clone. -/
import Derived.Test.YtgleblfkcdkaeaaDoorDWalksB
import Derived.Lib.UnsafeStr
import Derived.Lib.BufferWrite
import Derived.Laws.MakeOwn
import Derived.Lib.Strings
namespace Go.Proofs.YtgleblfkcdkaeaaDoor
open Go.RowKit

theorem used_take {l : List Fl} {k : Nat} {f : Fl} (hf : l[k]? = some f) : used (l.take (k + 1)) = used (l.take k) + f.data.length := by
  obtain ⟨hk, rfl⟩ := List.getElem?_eq_some_iff.1 hf
  rw [List.take_succ_eq_append_getElem hk, used_append, used_cons]; simp [used]
theorem used_take_le {l : List Fl} (k : Nat) : used (l.take k) ≤ used l := by
  conv => rhs; rw [← List.take_append_drop k l]
  rw [used_append]; omega

/-- Behind an alloc and a store into it: all below is as it was. -/
theorem below_box {w u : World} {a : Addr} {o : Obj} {v : Value} (h : Below w.heap.size w u) (ha : a.block = u.heap.size) : Below w.heap.size w ((u.alloc o).setCell a v) :=
  (h.alloc h.size _).setCell (by rw [ha]; exact h.size) _

set_option maxHeartbeats 1000000 in
theorem used_any (pb : Nat) (d : Dm) (fv : Value) (vs : List Value) (S : List Nat) (w : World) (h : Dk w pb d fv vs S) (hn : d.files.length ≤ 1000000) :
    Calls Tryd.prog 58 #[.pointer (some ⟨pb, 0, none⟩)] w fun e w' => e = .returned (.int .i64 (used d.files)) ∧ Below w.heap.size w w' := by
  have c1 := h.c1
  have hu : used d.files ≤ 16777216 := Nat.le_trans h.ok.room h.ok.lim
  obtain ⟨ao, cap, hfv, _, hcap⟩ := h.form
  have hall : ∀ k, k < d.files.length → ∃ fb f bo bc, ao = some ⟨fb, 0, none⟩ ∧ d.files[k]? = some f ∧ w.cell? ⟨fb, k * 3, none⟩ = some (.string f.name) ∧ w.cell? ⟨fb, k * 3 + 1, none⟩ = some (.slice bo f.data.length bc) ∧ w.cell? ⟨fb, k * 3 + 2, none⟩ = some (.int .i64 f.synced) := by
    intro k hk
    obtain ⟨fb, cap', h1, _, _, hcell, _⟩ := h.list (by omega)
    rw [hfv] at h1
    simp at h1
    obtain ⟨v, hv, hr⟩ := h.datas.at k _ (List.getElem?_eq_getElem hk)
    obtain ⟨bo, bc, rfl⟩ := own_form hr
    obtain ⟨a, b, c⟩ := hcell k _ _ (List.getElem?_eq_getElem hk) hv
    exact ⟨fb, _, bo, bc, h1.1, List.getElem?_eq_getElem hk, a, b, c⟩
  subst hfv
  clear h
  generalize hl : d.files = l at *
  generalize hN : l.length = n at *
  go_enter Tryd.func58, Tryd.ntmps58
  go_wp2
  go_loopw [3, 11] (fun u i wr => ∃ k m : Nat, k ≤ n ∧ i = .int .i64 k ∧ u = .int .i64 m ∧ Hid (m = used (l.take k)) ∧ m ≤ 16777216 ∧ Below w.heap.size w wr) (fun _ i _ => n - (intOf i).toNat)
  case atStart => exact ⟨0, 0, by omega, rfl, rfl, by simp [used, Hid], by omega, Below.refl _ _⟩
  case round =>
    obtain ⟨k, m, hk, rfl, rfl, hm, hm2, hb⟩ := hrel
    by_cases hlt : k < n
    · obtain ⟨fb, f, bo, bc, rfl, hf, e0, e1, e2⟩ := hall k hlt
      have hs : Hid (m + f.data.length = used (l.take (k + 1))) := by show _ = _; rw [used_take hf, hm.out]
      have hle : m + f.data.length ≤ 16777216 := by have := used_take_le (l := l) (k + 1); have := hs.out; omega
      have e0 := cell_later hb e0
      have e1 := cell_later hb e1
      have e2 := cell_later hb e2
      clear hall hf
      generalize f.name = nm at *
      generalize f.data.length = dl at *
      go_wp2
      go_roundw
      case rel => exact ⟨k + 1, m + dl, by omega, by go_num, by go_num, hs, hle, hb.alloc hb.size _⟩
      case measure => simp [intOf]; omega
    · have hkn : k = n := by omega
      go_wp2
      go_ret
      exact ⟨ret_int (by rw [hm.out, hkn, ← hN, List.take_length]), hb⟩

/-- A slice of bytes that is owned reads as its bytes. -/
theorem Tx.of_own {w : World} {v : Value} {xs : List Int} (h : w.ownsRow 0 5 1 v xs.length (xs.map (Value.int .u8))) (hr : ∀ n ∈ xs, 0 ≤ n ∧ n ≤ 255) : ∃ ao cap, v = .slice ao xs.length cap ∧ Tx w ao xs.length cap xs ∧ ((ao = none) ↔ v = .slice none 0 0) := by
  obtain ⟨ao, cap, rfl, t⟩ := Tx.own h hr
  refine ⟨ao, cap, rfl, t, ?_⟩
  constructor
  · intro e; have := t.bare e; subst e; simp [this]
  · intro e; simp at e; exact e.1

theorem dbclone_any (ao : Option Addr) (la ca : Nat) (xs : List Int) (w : World) (ha : Tx w ao la ca xs) (hl : la ≤ 1000000000) :
    Calls Tryd.prog 60 #[.slice ao la ca] w fun e w' => ∃ bo cb, e = .returned (.slice bo la cb) ∧ Tx w' bo la cb xs ∧ Below w.heap.size w w' := by
  cases ao with
  | none =>
    obtain ⟨rfl, rfl⟩ := ha.bare rfl
    have hx : xs = [] := List.eq_nil_of_length_eq_zero ha.len_eq
    subst hx
    have hq : ∀ w, (binOp .eql 27 (.slice none 0 0) (.slice none 0 0)).run Tryd.prog w = .ok (.bool true) w := fun _ => by kernel_rfl
    go_enter Tryd.func60, Tryd.ntmps60
    go_wp2
    go_ret
    exact ⟨none, 0, rfl, Tx.nil _, Below.refl _ _⟩
  | some a =>
    have hq := fun wx => Lib.run_eql_slice_nil (P := Tryd.prog) wx 27 5 (some a) la ca 0 0 Tryd.underlying27
    go_enter Tryd.func60, Tryd.ntmps60
    have hi : (some a).isNone = false := rfl
    rw [hi] at hq
    go_wp2_with (with_reducible show wpList _ _ _ (⟨some 7, _, _, _, _, _⟩ :: _) _ _; refine wpList_append_bytes _ rfl _ _ rfl w.heap.size (.slice (some ⟨w.heap.size, 0, none⟩) 0 0) 0 [] rfl (own_empty w) (by simp) (some a) la ca xs rfl (ha.alloc _) (by omega) (by simp) ?_; intro a5 l5 c5 w5 hl5 hown5 htx5 b5)
    go_ret
    rw [Nat.zero_add] at hl5
    subst hl5
    exact ⟨a5, c5, rfl, htx5, ((Below.refl _ _).alloc (Nat.le_refl _) _).trans b5⟩

set_option maxHeartbeats 1000000 in
set_option maxRecDepth 100000 in
theorem sclone_in (s : ByteArray) (w : World) (hlim : s.size ≤ 281474976710656) :
    Calls Tryd.prog 65 #[.string s] w fun e w' => e = .returned (.string s) ∧ Below w.heap.size w w' := by
  by_cases h0 : s.size = 0
  · have hs : s = ⟨#[]⟩ := by
      apply ByteArray.ext
      exact Array.eq_empty_of_size_eq_zero h0
    subst hs
    go_enter Tryd.func65, Tryd.ntmps65
    go_wp2
    go_ret
    exact ⟨rfl, Below.refl _ _⟩
  · obtain ⟨i0, hi, hz0, hz1, hz2⟩ := info_parts Tryd.info5
    have hinfo : (Tryd.prog.info? 5).map (·.size) = some 1 := by rw [hi]; simp [hz1]
    have hco : Tryd.prog.cellsOf 5 = 1 := by simp [Program.cellsOf, hi, hz1]
    obtain ⟨M, hM⟩ : ∃ M, M = madeCells (Value.int .u8 0).cells (((s.size : Nat) : Int).toNat * i0.size) := ⟨_, rfl⟩
    have hMs : M.size = s.size := by rw [hM, size_madeCells, hz1]; simp
    have hmk : ∀ W : World, (Instr.makeSlice 27 (.int .i64 (s.size : Int)) (.int .i64 (s.size : Int))).run Tryd.prog W = .ok (.slice (some ⟨W.heap.size, 0, none⟩) s.size s.size) (W.alloc (.cells M 5)) := fun W => by
      have h := run_make (P := Tryd.prog) W 27 5 i0 (.int .u8 0) Tryd.underlying27 hi hz0 .i64 .i64 (s.size : Int) (s.size : Int) (by omega) (by omega) (by rw [hz2]; omega) (by omega)
      rw [← hM] at h
      simpa using h
    clear hM
    have hcp := Lib.run_copy_row_string (P := Tryd.prog) (w.alloc (.cells M 5)) 27 9 3 5 w.heap.size 0 s.size s.size s M 5 Tryd.underlying27 hinfo (heap_alloc_new w _) (Nat.le_refl _) (by omega)
    obtain ⟨Y, hY⟩ : ∃ Y, Y = (M.toList.take 0 ++ Lib.byteCells s.data.toList ++ M.toList.drop (0 + s.size)).toArray := ⟨_, rfl⟩
    rw [← hY] at hcp
    have hYl : Y.toList = Lib.byteCells s.data.toList := by
      rw [hY, List.toList_toArray, List.take_zero, List.nil_append, List.drop_of_length_le (by rw [Array.length_toList]; omega), List.append_nil]
    have hYs : Y.size = s.size := by rw [← Array.length_toList, hYl, Lib.byteCells_length, ← Lib.size_eq]
    have hgY : ((w.alloc (.cells M 5)).setRow w.heap.size Y).heap[w.heap.size]? = some (.cells Y 5 (0, 0)) := setRow_heap _ _ M _ 5 (0, 0) (heap_alloc_new w _)
    have hne : s.data.toList ≠ [] := fun e => h0 (by rw [Lib.size_eq, e]; rfl)
    have hUS := Lib.run_unsafeString_row (P := Tryd.prog) ((w.alloc (.cells M 5)).setRow w.heap.size Y) 108 3 9 5 Tryd.underlying108 hco w.heap.size Y.size (by unfold World.shape?; rw [hgY]) s.data.toList hne (by rw [← Lib.size_eq]; omega) (by rw [← Lib.size_eq]; omega)
      (fun j x hx => Lib.cells_of_row hgY Y.size j _ (by rw [List.take_of_length_le (by rw [Array.length_toList]; exact Nat.le_refl _), hYl]; simp [Lib.byteCells, hx]))
    rw [← Lib.size_eq] at hUS
    clear hY
    go_enter Tryd.func65, Tryd.ntmps65
    go_wp2
    go_ret
    have hb1 : Below w.heap.size w (w.alloc (.cells M 5)) := (Below.refl _ w).alloc (Nat.le_refl _) _
    have hb2 : Below w.heap.size (w.alloc (.cells M 5)) ((w.alloc (.cells M 5)).setRow w.heap.size Y) := ⟨rfl, rfl, rfl, by simp, fun k hk => setRow_other _ _ _ _ (by omega)⟩
    exact ⟨rfl, Lib.below_freeze (hb1.trans hb2) (p := ⟨w.heap.size, 0, none⟩) (Nat.le_refl _) _⟩

theorem sclone_any (s : ByteArray) (w : World) (hlim : s.size ≤ 281474976710656) :
    Calls Tryd.prog 56 #[.string s] w fun e w' => e = .returned (.string s) ∧ Below w.heap.size w w' := by
  go_enter Tryd.func56, Tryd.ntmps56
  go_wp2_with (go_at_call 65; with_reducible refine (sclone_in s w hlim).mono ?_; rintro e w1 ⟨rfl, hb1⟩)
  go_ret
  exact ⟨rfl, hb1⟩

end Go.Proofs.YtgleblfkcdkaeaaDoor
