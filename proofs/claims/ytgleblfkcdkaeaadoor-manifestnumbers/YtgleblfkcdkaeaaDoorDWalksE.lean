/- The walks of Cut, Sync. -/
import Derived.Test.YtgleblfkcdkaeaaDoorDWalksD
import Derived.Deep.RegionHeld
namespace Go.Proofs.YtgleblfkcdkaeaaDoor
open Go.RowKit

theorem used_del_le {l : List Fl} (h : Rising l) {nm : ByteArray} {f : Fl} (hg : get l nm = some f) : used l = used (del l nm) + f.data.length := by
  rw [used_parts h nm, hg]; rfl

/-- A file's turn as the place's. -/
theorem Dm.set_put {d : Dm} (hr : Rising d.files) {nm : ByteArray} {f g : Fl} (hg : get d.files nm = some f) (hn : g.name = nm) {i : Nat} (hi : i = (lo d.files nm).length) : ({ d with files := d.files.set i g } : Dm) = { d with files := put d.files g } := by
  rw [hi, YtgleblfkcdkaeaaDoor.set_put hr hg hn]

set_option maxHeartbeats 2000000 in
theorem sync_any (pb : Nat) (d : Dm) (fv : Value) (vs : List Value) (S : List Nat) (nm : ByteArray) (w : World) (h : Dk w pb d fv vs S) (hn : d.files.length ≤ 1000000) :
    Calls Tryd.prog 37 #[.pointer (some ⟨pb, 0, none⟩), .string nm] w fun e w' => e = .returned (.int .i64 (d.sync nm).2) ∧ ∃ fv' vs' S', Dk w' pb (d.sync nm).1 fv' vs' S' ∧ Step S S' w w' := by
  have hfind := find_any pb d fv vs S nm w h hn
  cases hg : get d.files nm with
  | none =>
    rw [hg] at hfind
    have e : Hid (d.sync nm = (d, 22)) := by show _ = _; simp [Dm.sync, hg]
    go_enter Tryd.func37, Tryd.ntmps37
    go_wp2_with (go_at_call 57; with_reducible refine hfind.mono ?_; rintro e w1 ⟨rfl, hb1⟩)
    go_ret
    rw [e.out]
    exact ⟨rfl, fv, vs, S, h.later hb1, .of_below hb1⟩
  | some f =>
    rw [hg] at hfind
    have hsp := fun w1 (hb1 : Below w.heap.size w w1) => spend_any pb d fv vs S w1 (h.later hb1)
    cases hdn : d.spend.down with
    | true =>
      have e : Hid (d.sync nm = (d.spend, 13)) := by show _ = _; simp only [Dm.sync, hg]; rw [if_pos hdn]
      rw [hdn] at hsp
      go_enter Tryd.func37, Tryd.ntmps37
      go_wp2_with (first
        | (go_at_call 57; with_reducible refine hfind.mono ?_; rintro e w1 ⟨rfl, hb1⟩; have hsp1 := hsp w1 hb1; clear hsp)
        | (go_at_call 54; with_reducible refine hsp1.mono ?_; rintro e w2 ⟨rfl, D2, st2⟩))
      go_ret
      rw [e.out]
      exact ⟨rfl, fv, vs, S, D2, (Step.of_below hb1).trans st2⟩
    | false =>
      have e : Hid (d.sync nm = ({ d.spend with files := put d.files ⟨nm, f.data, f.data.length⟩ }, 0)) := by show _ = _; simp only [Dm.sync, hg]; rw [if_neg (by rw [hdn]; simp)]
      rw [hdn] at hsp
      obtain ⟨fb, cap, i, bo, bc, rfl, hi, hil, hc, hm, hf, hv, _⟩ := h.file hg
      have hgs : get d.spend.files nm = some f := by rw [d.spend_files]; exact hg
      rw [← hi] at hfind
      have fin : ∀ w2, Dk w2 pb d.spend (.slice (some ⟨fb, 0, none⟩) d.files.length cap) vs S → ∃ S', Dk (w2.setCell ⟨fb, i * 3 + 2, none⟩ (.int .i64 f.data.length)) pb { d.spend with files := put d.files ⟨nm, f.data, f.data.length⟩ } (.slice (some ⟨fb, 0, none⟩) d.files.length cap) vs S' ∧ Step S S' w2 (w2.setCell ⟨fb, i * 3 + 2, none⟩ (.int .i64 f.data.length)) := by
        intro w2 D2
        have hfs : d.spend.files[i]? = some f := by rw [d.spend_files]; exact hf
        have he := Dm.set_put (d := d.spend) (g := ⟨nm, f.data, f.data.length⟩) (i := i) (by rw [d.spend_files]; exact h.ok.rise) hgs rfl (by rw [d.spend_files]; exact hi)
        have hok : Dm.Ok { d.spend with files := d.spend.files.set i ⟨nm, f.data, f.data.length⟩ } := by
          rw [he]
          have hnn := get_name hg
          exact h.ok.spend.put _ (by rw [d.spend_files, d.spend_limit]; have := used_del_le h.ok.rise hg; have := h.ok.room; simp; omega) (by simp) (h.ok.rng f (get_mem hg)) (by have := h.ok.name f (get_mem hg); rw [hnn] at this; exact this)
        have := D2.set2 i (f := f) ⟨nm, f.data, f.data.length⟩ hfs hv (get_name hg).symm hok (D2.fileAt hfs hv).2.2.2.2
        rw [he, d.spend_files] at this
        exact this
      have hat : ∀ w2, Dk w2 pb d.spend (.slice (some ⟨fb, 0, none⟩) d.files.length cap) vs S → w2.cell? ⟨pb, 1, none⟩ = some (.slice (some ⟨fb, 0, none⟩) d.files.length cap) ∧ w2.cell? ⟨fb, i * 3 + 1, none⟩ = some (.slice bo f.data.length bc) ∧ w2.cell? ⟨fb, i * 3 + 2, none⟩ = some (.int .i64 f.synced) ∧ w2.frozen? ⟨fb, i * 3 + 2, none⟩ = false := by
        intro w2 D2
        obtain ⟨_, b, c, z, _⟩ := D2.fileAt (f := f) (by rw [d.spend_files]; exact hf) hv
        exact ⟨D2.c1, b, c, z _⟩
      clear hi hgs hf hv
      generalize d.files.length = N at *
      generalize f.data.length = dl at *
      have hil' : (i : Int) < (N : Int) := by omega
      go_enter Tryd.func37, Tryd.ntmps37
      go_wp2_with (first
        | (go_at_call 57; with_reducible refine hfind.mono ?_; rintro e w1 ⟨rfl, hb1⟩; have hsp1 := hsp w1 hb1; clear hsp)
        | (go_at_call 54; with_reducible refine hsp1.mono ?_; rintro e w2 ⟨rfl, D2, st2⟩; obtain ⟨f1, f2, f3, f4⟩ := hat w2 D2))
      go_region
      go_wp2
      go_ret
      rw [e.out]
      obtain ⟨S', D3, st3⟩ := fin w2 D2
      exact ⟨rfl, _, vs, S', D3.drew, ((Step.of_below hb1).trans st2).trans st3.drew⟩

end Go.Proofs.YtgleblfkcdkaeaaDoor
