/- The walks of Read, Synced, Grow, keep. -/
import Derived.Test.YtadnbdkbjajgdaaMemB
namespace Go.Proofs.Ytadnbdkbjajgdaa
open Go.RowKit

/-- The file of a name, in memory. -/
theorem Dk.file {w : World} {pb : Nat} {d : Dm} {fv : Value} {vs : List Value} {S : List Nat} (h : Dk w pb d fv vs S) {nm : ByteArray} {f : Fl} (hg : get d.files nm = some f) :
    ∃ fb cap i bo bc, fv = .slice (some ⟨fb, 0, none⟩) d.files.length cap ∧ i = (lo d.files nm).length ∧ i < d.files.length ∧ d.files.length ≤ cap ∧ cap ≤ maxLen ∧ d.files[i]? = some f ∧ vs[i]? = some (.slice bo f.data.length bc) ∧ w.ownsRow 0 5 1 (.slice bo f.data.length bc) f.data.length (f.data.map (Value.int .u8)) ∧ Tx w bo f.data.length bc f.data ∧
      w.cell? ⟨fb, i * 3, none⟩ = some (.string f.name) ∧ w.cell? ⟨fb, i * 3 + 1, none⟩ = some (.slice bo f.data.length bc) ∧ w.cell? ⟨fb, i * 3 + 2, none⟩ = some (.int .i64 f.synced) ∧ (∀ k, w.frozen? ⟨fb, k, none⟩ = false) ∧ fb ≠ pb ∧ (∀ k ∈ own (.slice bo f.data.length bc), k ≠ fb ∧ k ≠ pb ∧ k ∈ S) := by
  have hf := at_lo h.ok.rise hg
  have hi := (List.getElem?_eq_some_iff.1 hf).1
  obtain ⟨fb, cap, rfl, hc, hm, hcell, hS, hne, hoth, hz⟩ := h.list (by omega)
  obtain ⟨v, hv, hr⟩ := h.datas.at _ f hf
  obtain ⟨bo, bc, rfl, t, _⟩ := Tx.of_own hr (h.ok.rng f (get_mem hg))
  obtain ⟨a, b, c⟩ := hcell _ f _ hf hv
  exact ⟨fb, cap, _, bo, bc, rfl, rfl, hi, hc, hm, hf, hv, hr, t, a, b, c, hz, hne, fun k hk => ⟨(hoth k (mem_flat_at hv hk)).1, (hoth k (mem_flat_at hv hk)).2, by rw [h.whole]; exact List.mem_cons_of_mem _ (List.mem_append_right _ (mem_flat_at hv hk))⟩⟩

theorem ret_read {bo : Option Addr} {lb cb : Nat} {b c : Bool} (h : b = c) : Ending.returned (.tuple #[.slice bo lb cb, .bool b]) = .returned (.tuple #[.slice bo lb cb, .bool c]) := by rw [h]

/-- What Read answers. -/
def rd (l : List Fl) (nm : ByteArray) : List Int := ((get l nm).map (fun f => f.data)).getD []
def sy (l : List Fl) (nm : ByteArray) : Nat := ((get l nm).map (fun f => f.synced)).getD 0
theorem rd_some {l : List Fl} {nm : ByteArray} {f : Fl} (h : get l nm = some f) : rd l nm = f.data := by simp [rd, h]
theorem rd_none {l : List Fl} {nm : ByteArray} (h : get l nm = none) : rd l nm = [] := by simp [rd, h]
theorem sy_some {l : List Fl} {nm : ByteArray} {f : Fl} (h : get l nm = some f) : sy l nm = f.synced := by simp [sy, h]
theorem sy_none {l : List Fl} {nm : ByteArray} (h : get l nm = none) : sy l nm = 0 := by simp [sy, h]

set_option maxHeartbeats 1000000 in
theorem read_any (pb : Nat) (d : Dm) (fv : Value) (vs : List Value) (S : List Nat) (nm : ByteArray) (w : World) (h : Dk w pb d fv vs S) (hn : d.files.length ≤ 1000000) :
    Calls Try.prog 22 #[.pointer (some ⟨pb, 0, none⟩), .string nm] w fun e w' => ∃ bo cb, e = .returned (.tuple #[.slice bo (rd d.files nm).length cb, .bool (get d.files nm).isSome]) ∧ Tx w' bo (rd d.files nm).length cb (rd d.files nm) ∧ Below w.heap.size w w' := by
  have hfind := find_any pb d fv vs S nm w h hn
  cases hg : get d.files nm with
  | none =>
    rw [hg] at hfind
    rw [rd_none hg]
    have hs : Hid ((none : Option Fl).isSome = false) := rfl
    go_enter Try.func22, Try.ntmps22
    go_wp2_with (go_at_call 47; with_reducible refine hfind.mono ?_; rintro e w1 ⟨rfl, hb1⟩)
    go_ret2
    exact ⟨none, 0, rfl, Tx.nil _, hb1⟩
  | some f =>
    rw [hg] at hfind
    rw [rd_some hg]
    obtain ⟨fb, cap, i, bo, bc, rfl, hi, hil, hc, hm, hf, hv, hr, t, e0, e1, e2, hz, _⟩ := h.file hg
    have hu : f.data.length ≤ 1000000000 := by have := used_mem (get_mem hg); have := h.ok.room; have := h.ok.lim; omega
    have c1 := h.c1
    rw [← hi] at hfind
    clear hi
    generalize d.files.length = n at *
    clear h hg hf hv hr hz
    go_enter Try.func22, Try.ntmps22
    go_wp2_with (first
      | (go_at_call 47; with_reducible refine hfind.mono ?_; rintro e w1 ⟨rfl, hb1⟩; have c1' := cell_later hb1 c1; have e1' := cell_later hb1 e1; have t1 := t.later hb1)
      | (go_at_call 50; with_reducible refine (bclone_any bo f.data.length bc f.data w1 t1 hu).mono ?_; rintro e w2 ⟨bo2, cb2, rfl, t2, hb2⟩))
    go_ret2
    exact ⟨bo2, cb2, rfl, t2, hb1.trans (hb2.mono hb1.size)⟩

theorem synced_any (pb : Nat) (d : Dm) (fv : Value) (vs : List Value) (S : List Nat) (nm : ByteArray) (w : World) (h : Dk w pb d fv vs S) (hn : d.files.length ≤ 1000000) :
    Calls Try.prog 42 #[.pointer (some ⟨pb, 0, none⟩), .string nm] w fun e w' => e = .returned (.int .i64 (sy d.files nm)) ∧ Below w.heap.size w w' := by
  have hfind := find_any pb d fv vs S nm w h hn
  cases hg : get d.files nm with
  | none =>
    rw [hg] at hfind
    rw [sy_none hg]
    go_enter Try.func42, Try.ntmps42
    go_wp2_with (go_at_call 47; with_reducible refine hfind.mono ?_; rintro e w1 ⟨rfl, hb1⟩)
    go_ret
    exact ⟨rfl, hb1⟩
  | some f =>
    rw [hg] at hfind
    rw [sy_some hg]
    obtain ⟨fb, cap, i, bo, bc, rfl, hi, hil, hc, hm, hf, hv, hr, t, e0, e1, e2, hz, _⟩ := h.file hg
    have c1 := h.c1
    rw [← hi] at hfind
    clear hi
    generalize d.files.length = n at *
    clear h hg hf hv hr hz
    go_enter Try.func42, Try.ntmps42
    go_wp2_with (go_at_call 47; with_reducible refine hfind.mono ?_; rintro e w1 ⟨rfl, hb1⟩; have c1' := cell_later hb1 c1; have e2' := cell_later hb1 e2)
    go_ret
    exact ⟨rfl, hb1⟩

theorem grow_any (pb : Nat) (d : Dm) (fv : Value) (vs : List Value) (S : List Nat) (n : Int) (w : World) (h : Dk w pb d fv vs S) (hn : d.files.length ≤ 1000000) (_h1 : -9223372036854775808 ≤ n) (_h2 : n ≤ 9223372036854775807) :
    Calls Try.prog 30 #[.pointer (some ⟨pb, 0, none⟩), .int .i64 n] w fun e w' => e = .returned (.bool (d.grow n).2) ∧ Dk w' pb (d.grow n).1 fv vs S ∧ Step S S w w' := by
  have hused := used_any pb d fv vs S w h hn
  have hu := Nat.le_trans h.ok.room h.ok.lim
  by_cases hb : n < used d.files
  · have e : Hid (d.grow n = (d, false)) := by show _ = _; simp [Dm.grow]; omega
    generalize used d.files = u at hused hu hb
    go_enter Try.func30, Try.ntmps30
    go_wp2_with (go_at_call 24; with_reducible refine hused.mono ?_; rintro e w1 ⟨rfl, hb1⟩)
    go_ret
    rw [e.out]
    exact ⟨rfl, h.later hb1, .of_below hb1⟩
  · by_cases hb2 : 16777216 < n
    · have e : Hid (d.grow n = (d, false)) := by show _ = _; simp [Dm.grow]; omega
      generalize used d.files = u at hused hu hb
      go_enter Try.func30, Try.ntmps30
      go_wp2_with (go_at_call 24; with_reducible refine hused.mono ?_; rintro e w1 ⟨rfl, hb1⟩)
      go_ret
      rw [e.out]
      exact ⟨rfl, h.later hb1, .of_below hb1⟩
    · obtain ⟨m, rfl⟩ : ∃ m : Nat, n = (m : Int) := ⟨n.toNat, by omega⟩
      have e : Hid (d.grow m = ({ d with limit := m }, true)) := by show _ = _; simp [Dm.grow]; omega
      have hok : Dm.Ok { d with limit := m } := ⟨by simp; omega, by simp; omega, h.ok.rise, h.ok.sync, h.ok.rng, h.ok.name, h.ok.l1, h.ok.l2⟩
      generalize used d.files = u at hused hu hb
      have c0 := h.c0
      have z0 := h.z 0
      go_enter Try.func30, Try.ntmps30
      go_wp2_with (go_at_call 24; with_reducible refine hused.mono ?_; rintro e w1 ⟨rfl, hb1⟩; have D1 := h.later hb1; have c0' := D1.c0; have z0' := D1.z 0)
      go_ret
      rw [e.out]
      have T := D1.turn { d with limit := m } rfl hok ((Off.refl [pb] w1).setCell (p := ⟨pb, 0, none⟩) (by simp) (.int .i64 m)) (set_head _ D1.head)
      exact ⟨rfl, T.1, (Step.of_below hb1).trans T.2⟩

theorem keep_any (fb o n dl dc : Nat) (bo : Option Addr) (u : Value) (w : World) (hbo : bo = none → dl = 0 ∧ dc = 0) (hn : n ≤ dl) (hd : dl ≤ dc) (hm : dc ≤ maxLen) (c1 : w.cell? ⟨fb, o + 1, none⟩ = some (.slice bo dl dc)) (c2 : w.cell? ⟨fb, o + 2, none⟩ = some u) (z1 : w.frozen? ⟨fb, o + 1, none⟩ = false) (z2 : w.frozen? ⟨fb, o + 2, none⟩ = false) :
    Calls Try.prog 49 #[.pointer (some ⟨fb, o, none⟩), .int .i64 n] w fun e w' => e = .returned (.tuple #[]) ∧ w' = (w.setCell ⟨fb, o + 1, none⟩ (.slice bo n dc)).setCell ⟨fb, o + 2, none⟩ (.int .i64 n) := by
  unfold maxLen at hm
  cases bo with
  | none =>
    obtain ⟨rfl, rfl⟩ := hbo rfl
    obtain rfl : n = 0 := by omega
    go_enter Try.func49, Try.ntmps49
    go_wp2
    go_end0
    exact ⟨rfl, rfl⟩
  | some a =>
    go_enter Try.func49, Try.ntmps49
    go_wp2
    go_end0
    exact ⟨rfl, rfl⟩

end Go.Proofs.Ytadnbdkbjajgdaa
