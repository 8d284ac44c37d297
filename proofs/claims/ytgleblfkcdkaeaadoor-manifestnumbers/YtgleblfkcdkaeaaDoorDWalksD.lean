/- The walks of Read, Synced, Grow, keep. -/
import Derived.Test.YtgleblfkcdkaeaaDoorDMemB
namespace Go.Proofs.YtgleblfkcdkaeaaDoor
open Go.RowKit

/-- The file of a name, in memory. -/
theorem Dk.file {w : World} {pb : Nat} {d : Dm} {fv : Value} {vs : List Value} {S : List Nat} (h : Dk w pb d fv vs S) {nm : ByteArray} {f : Fl} (hg : get d.files nm = some f) :
    ∃ fb cap i bo bc, fv = .slice (some ⟨fb, 0, none⟩) d.files.length cap ∧ i = (lo d.files nm).length ∧ i < d.files.length ∧ d.files.length ≤ cap ∧ cap ≤ maxLen ∧ d.files[i]? = some f ∧ vs[i]? = some (.slice bo f.data.length bc) ∧ w.ownsRow 0 5 1 (.slice bo f.data.length bc) f.data.length (f.data.map (Value.int .u8)) ∧ Tx w bo f.data.length bc f.data ∧
      w.cell? ⟨fb, i * 3, none⟩ = some (.string f.name) ∧ w.cell? ⟨fb, i * 3 + 1, none⟩ = some (.slice bo f.data.length bc) ∧ w.cell? ⟨fb, i * 3 + 2, none⟩ = some (.int .i64 f.synced) ∧ (∀ k, w.frozen? ⟨fb, k, none⟩ = false) ∧ fb ≠ pb ∧ (∀ k ∈ own (.slice bo f.data.length bc), k ≠ fb ∧ k ≠ pb ∧ k ∈ S) := by
  have hf := at_lo h.ok.rise hg
  have hi := (List.getElem?_eq_some_iff.1 hf).1
  obtain ⟨fb, cap, rfl, hc, hm, hcell, hS, hne, hoth, hz⟩ := h.list (by omega)
  obtain ⟨v, hv, hr⟩ := h.datas.at _ f hf
  obtain ⟨bo, bc, rfl, t, _⟩ := Tx.of_own hr (h.ok.rng f (get_mem hg))
  obtain ⟨a, b, c⟩ := hcell _ f _ hf hv
  exact ⟨fb, cap, _, bo, bc, rfl, rfl, hi, hc, hm, hf, hv, hr, t, a, b, c, hz, hne, fun k hk => ⟨(hoth k (mem_flat_at hv hk)).1, (hoth k (mem_flat_at hv hk)).2, by rw [h.whole]; exact List.mem_cons_of_mem _ (List.mem_append_right _ (mem_flat_at hv hk))⟩⟩

theorem ret_read {bo : Option Addr} {lb cb : Nat} {b c : Bool} (h : b = c) : Ending.returned (.tuple #[.slice bo lb cb, .bool b]) = .returned (.tuple #[.slice bo lb cb, .bool c]) := by rw [h]

/-- What Read answers. -/
def rd (l : List Fl) (nm : ByteArray) : List Int := ((get l nm).map (fun f => f.data)).getD []
def sy (l : List Fl) (nm : ByteArray) : Nat := ((get l nm).map (fun f => f.synced)).getD 0
theorem rd_some {l : List Fl} {nm : ByteArray} {f : Fl} (h : get l nm = some f) : rd l nm = f.data := by simp [rd, h]
theorem rd_none {l : List Fl} {nm : ByteArray} (h : get l nm = none) : rd l nm = [] := by simp [rd, h]
theorem sy_some {l : List Fl} {nm : ByteArray} {f : Fl} (h : get l nm = some f) : sy l nm = f.synced := by simp [sy, h]
theorem sy_none {l : List Fl} {nm : ByteArray} (h : get l nm = none) : sy l nm = 0 := by simp [sy, h]

set_option maxHeartbeats 1000000 in
theorem read_any (pb : Nat) (d : Dm) (fv : Value) (vs : List Value) (S : List Nat) (nm : ByteArray) (w : World) (h : Dk w pb d fv vs S) (hn : d.files.length ≤ 1000000) :
    Calls Tryd.prog 40 #[.pointer (some ⟨pb, 0, none⟩), .string nm] w fun e w' => ∃ bo cb, e = .returned (.tuple #[.slice bo (rd d.files nm).length cb, .bool (get d.files nm).isSome]) ∧ Tx w' bo (rd d.files nm).length cb (rd d.files nm) ∧ Below w.heap.size w w' := by
  have hfind := find_any pb d fv vs S nm w h hn
  cases hg : get d.files nm with
  | none =>
    rw [hg] at hfind
    rw [rd_none hg]
    have hs : Hid ((none : Option Fl).isSome = false) := rfl
    go_enter Tryd.func40, Tryd.ntmps40
    go_wp2_with (go_at_call 57; with_reducible refine hfind.mono ?_; rintro e w1 ⟨rfl, hb1⟩)
    go_ret2
    exact ⟨none, 0, rfl, Tx.nil _, hb1⟩
  | some f =>
    rw [hg] at hfind
    rw [rd_some hg]
    obtain ⟨fb, cap, i, bo, bc, rfl, hi, hil, hc, hm, hf, hv, hr, t, e0, e1, e2, hz, _⟩ := h.file hg
    have hu : f.data.length ≤ 1000000000 := by have := used_mem (get_mem hg); have := h.ok.room; have := h.ok.lim; omega
    have c1 := h.c1
    rw [← hi] at hfind
    clear hi
    generalize d.files.length = n at *
    clear h hg hf hv hr hz
    go_enter Tryd.func40, Tryd.ntmps40
    go_wp2_with (first
      | (go_at_call 57; with_reducible refine hfind.mono ?_; rintro e w1 ⟨rfl, hb1⟩; have c1' := cell_later hb1 c1; have e1' := cell_later hb1 e1; have t1 := t.later hb1)
      | (go_at_call 60; with_reducible refine (dbclone_any bo f.data.length bc f.data w1 t1 hu).mono ?_; rintro e w2 ⟨bo2, cb2, rfl, t2, hb2⟩))
    go_ret2
    exact ⟨bo2, cb2, rfl, t2, hb1.trans (hb2.mono hb1.size)⟩

theorem dkeep_any (fb o n dl dc : Nat) (bo : Option Addr) (u : Value) (w : World) (hbo : bo = none → dl = 0 ∧ dc = 0) (hn : n ≤ dl) (hd : dl ≤ dc) (hm : dc ≤ maxLen) (c1 : w.cell? ⟨fb, o + 1, none⟩ = some (.slice bo dl dc)) (c2 : w.cell? ⟨fb, o + 2, none⟩ = some u) (z1 : w.frozen? ⟨fb, o + 1, none⟩ = false) (z2 : w.frozen? ⟨fb, o + 2, none⟩ = false) :
    Calls Tryd.prog 39 #[.pointer (some ⟨fb, o, none⟩), .int .i64 n] w fun e w' => e = .returned (.tuple #[]) ∧ w' = (w.setCell ⟨fb, o + 1, none⟩ (.slice bo n dc)).setCell ⟨fb, o + 2, none⟩ (.int .i64 n) := by
  unfold maxLen at hm
  cases bo with
  | none =>
    obtain ⟨rfl, rfl⟩ := hbo rfl
    obtain rfl : n = 0 := by omega
    go_enter Tryd.func39, Tryd.ntmps39
    go_wp2
    go_end0
    exact ⟨rfl, rfl⟩
  | some a =>
    go_enter Tryd.func39, Tryd.ntmps39
    go_wp2
    go_end0
    exact ⟨rfl, rfl⟩

end Go.Proofs.YtgleblfkcdkaeaaDoor
