/- The walks of Cut, Sync. -/
import Derived.Test.YtadnbdkbjajgdaaWalksD
import Derived.Deep.RegionHeld
namespace Go.Proofs.Ytadnbdkbjajgdaa
open Go.RowKit

theorem used_del_le {l : List Fl} (h : Rising l) {nm : ByteArray} {f : Fl} (hg : get l nm = some f) : used l = used (del l nm) + f.data.length := by
  rw [used_parts h nm, hg]; rfl

/-- A file's turn as the place's. -/
theorem Dm.set_put {d : Dm} (hr : Rising d.files) {nm : ByteArray} {f g : Fl} (hg : get d.files nm = some f) (hn : g.name = nm) {i : Nat} (hi : i = (lo d.files nm).length) : ({ d with files := d.files.set i g } : Dm) = { d with files := put d.files g } := by
  rw [hi, Ytadnbdkbjajgdaa.set_put hr hg hn]

set_option maxHeartbeats 2000000 in
theorem cut_any (pb : Nat) (d : Dm) (fv : Value) (vs : List Value) (S : List Nat) (nm : ByteArray) (n : Int) (w : World) (h : Dk w pb d fv vs S) (hn : d.files.length ≤ 1000000) (_h1 : -9223372036854775808 ≤ n) (_h2 : n ≤ 9223372036854775807) :
    Calls Try.prog 26 #[.pointer (some ⟨pb, 0, none⟩), .string nm, .int .i64 n] w fun e w' => e = .returned (.int .i64 (d.cut nm n).2) ∧ ∃ fv' vs' S', Dk w' pb (d.cut nm n).1 fv' vs' S' ∧ Step S S' w w' := by
  have hfind := find_any pb d fv vs S nm w h hn
  cases hg : get d.files nm with
  | none =>
    rw [hg] at hfind
    have e : Hid (d.cut nm n = (d, 22)) := by show _ = _; simp [Dm.cut, hg]
    go_enter Try.func26, Try.ntmps26
    go_wp2_with (go_at_call 47; with_reducible refine hfind.mono ?_; rintro e w1 ⟨rfl, hb1⟩)
    go_ret
    rw [e.out]
    exact ⟨rfl, fv, vs, S, h.later hb1, .of_below hb1⟩
  | some f =>
    rw [hg] at hfind
    obtain ⟨fb, cap, i, bo, bc, hfv, hi, hil, hc, hm, hf, hv, hr, t, e0, e1, e2, hz, hne, hown⟩ := h.file hg
    have hu : f.data.length ≤ 16777216 := by have := used_mem (get_mem hg); have := h.ok.room; have := h.ok.lim; omega
    have c1 := h.c1
    rw [← hi] at hfind
    rw [hfv] at c1
    have hiH : Hid (i = (lo d.files nm).length) := hi
    have hdl := t.le
    have hdm := t.top
    have hbare := t.bare
    clear hi
    generalize hN : d.files.length = N at *
    by_cases hbad : n < 0 ∨ (f.data.length : Int) < n
    · have e : Hid (d.cut nm n = (d, 1)) := by show _ = _; simp only [Dm.cut, hg]; rw [if_pos hbad]
      by_cases hneg : n < 0
      · generalize f.data.length = dl at *
        clear hbad hN
        go_enter Try.func26, Try.ntmps26
        go_wp2_with (go_at_call 47; with_reducible refine hfind.mono ?_; rintro e w1 ⟨rfl, hb1⟩; have c1' := cell_later hb1 c1; have e1' := cell_later hb1 e1)
        go_ret
        rw [e.out]
        exact ⟨rfl, fv, vs, S, h.later hb1, .of_below hb1⟩
      · have hbig : (f.data.length : Int) < n := by omega
        generalize f.data.length = dl at *
        clear hbad hN
        go_enter Try.func26, Try.ntmps26
        go_wp2_with (go_at_call 47; with_reducible refine hfind.mono ?_; rintro e w1 ⟨rfl, hb1⟩; have c1' := cell_later hb1 c1; have e1' := cell_later hb1 e1)
        go_ret
        rw [e.out]
        exact ⟨rfl, fv, vs, S, h.later hb1, .of_below hb1⟩
    · obtain ⟨m, rfl⟩ : ∃ m : Nat, n = (m : Int) := ⟨n.toNat, by omega⟩
      have hml : m ≤ f.data.length := by omega
      cases hdn : d.spend.down with
      | true =>
        have e : Hid (d.cut nm m = (d.spend, 13)) := by show _ = _; simp only [Dm.cut, hg]; rw [if_neg hbad, if_pos hdn]
        generalize f.data.length = dl at *
        clear hbad hN
        have hsp := fun w1 (hb1 : Below w.heap.size w w1) => spend_any pb d fv vs S w1 (h.later hb1)
        rw [hdn] at hsp
        go_enter Try.func26, Try.ntmps26
        go_wp2_with (first
          | (go_at_call 47; with_reducible refine hfind.mono ?_; rintro e w1 ⟨rfl, hb1⟩; have c1' := cell_later hb1 c1; have e1' := cell_later hb1 e1; have hsp1 := hsp w1 hb1; clear hsp)
          | (go_at_call 44; with_reducible refine hsp1.mono ?_; rintro e w2 ⟨rfl, D2, st2⟩))
        go_ret
        rw [e.out]
        exact ⟨rfl, fv, vs, S, D2, (Step.of_below hb1).trans st2⟩
      | false =>
        have e : Hid (d.cut nm m = ({ d.spend with files := put d.files ⟨nm, f.data.take m, m⟩ }, 0)) := by show _ = _; simp only [Dm.cut, hg]; rw [if_neg hbad, if_neg (by rw [hdn]; simp)]; simp
        have hsp := fun w1 (hb1 : Below w.heap.size w w1) => spend_any pb d fv vs S w1 (h.later hb1)
        rw [hdn] at hsp
        have hgs : get d.spend.files nm = some f := by rw [d.spend_files]; exact hg
        have fin : ∀ w2, Dk w2 pb d.spend fv vs S → (w2.cell? ⟨fb, i * 3 + 1, none⟩ = some (.slice bo f.data.length bc) ∧ w2.cell? ⟨fb, i * 3 + 2, none⟩ = some (.int .i64 f.synced) ∧ w2.cell? ⟨pb, 1, none⟩ = some (.slice (some ⟨fb, 0, none⟩) N cap) ∧ w2.frozen? ⟨fb, i * 3 + 1, none⟩ = false ∧ w2.frozen? ⟨fb, i * 3 + 2, none⟩ = false) ∧
            ∃ S', Dk ((w2.setCell ⟨fb, i * 3 + 1, none⟩ (.slice bo m bc)).setCell ⟨fb, i * 3 + 2, none⟩ (.int .i64 m)) pb { d.spend with files := put d.files ⟨nm, f.data.take m, m⟩ } fv (vs.set i (.slice bo m bc)) S' ∧ Step S S' w2 ((w2.setCell ⟨fb, i * 3 + 1, none⟩ (.slice bo m bc)).setCell ⟨fb, i * 3 + 2, none⟩ (.int .i64 m)) := by
          intro w2 D2
          subst hfv
          obtain ⟨fb', cap', i', bo', bc', hfv', hi', hil', _, _, hf', hv', hr', _, _, g1, g2, gz, _⟩ := D2.file hgs
          rw [d.spend_files] at hi' hf' hil'
          rw [← hiH.out] at hi'
          subst hi'
          rw [hv'] at hv
          simp only [Option.some.injEq, Value.slice.injEq, true_and] at hv
          obtain ⟨rfl, rfl⟩ := hv
          simp only [Value.slice.injEq, Option.some.injEq, Addr.mk.injEq, and_true] at hfv'
          obtain ⟨rfl, _, rfl⟩ := hfv'
          refine ⟨⟨g1, g2, D2.c1, gz _, gz _⟩, ?_⟩
          have hok : Dm.Ok { d.spend with files := d.spend.files.set i' ⟨nm, f.data.take m, m⟩ } := by
            rw [Dm.set_put (by rw [d.spend_files]; exact h.ok.rise) hgs rfl (by rw [d.spend_files]; exact hiH.out)]
            have hnn := get_name hg
            exact h.ok.spend.put _ (by rw [d.spend_files, d.spend_limit]; have := used_del_le h.ok.rise hg; have := h.ok.room; simp; omega) (by simp; omega) (fun n hn => h.ok.rng f (get_mem hg) n (List.mem_of_mem_take hn)) (by have := h.ok.name f (get_mem hg); rw [hnn] at this; exact this)
          have := D2.set12 i' (f := f) ⟨nm, f.data.take m, m⟩ (v := .slice bo' f.data.length bc') (v' := .slice bo' m bc') (by rw [d.spend_files]; exact hf') hv' (get_name hg).symm hok (by have := own_take hr' m hml rfl; simpa [Nat.min_eq_left hml] using this) (fun k hk => by rwa [own_len _ _ m _ bc'])
          rw [Dm.set_put (by rw [d.spend_files]; exact h.ok.rise) hgs rfl (by rw [d.spend_files]; exact hiH.out), d.spend_files] at this
          exact this
        generalize f.data.length = dl at *
        clear hbad hN
        go_enter Try.func26, Try.ntmps26
        go_wp2_with (first
          | (go_at_call 47; with_reducible refine hfind.mono ?_; rintro e w1 ⟨rfl, hb1⟩; have c1' := cell_later hb1 c1; have e1' := cell_later hb1 e1; have hsp1 := hsp w1 hb1; clear hsp)
          | (go_at_call 44; with_reducible refine hsp1.mono ?_; rintro e w2 ⟨rfl, D2, st2⟩; obtain ⟨⟨f1, f2, f3, f4, f5⟩, fin2⟩ := fin w2 D2)
          | (go_at_call 49; with_reducible refine (keep_any fb (i * 3) m dl bc bo _ w2 hbare hml hdl hdm f1 f2 f4 f5).mono ?_; rintro e w3 ⟨rfl, hw3⟩))
        go_ret
        rw [e.out]
        obtain ⟨S', D3, st3⟩ := fin2
        subst hw3
        exact ⟨rfl, fv, _, S', D3, ((Step.of_below hb1).trans st2).trans st3⟩

set_option maxHeartbeats 2000000 in
theorem sync_any (pb : Nat) (d : Dm) (fv : Value) (vs : List Value) (S : List Nat) (nm : ByteArray) (w : World) (h : Dk w pb d fv vs S) (hn : d.files.length ≤ 1000000) :
    Calls Try.prog 19 #[.pointer (some ⟨pb, 0, none⟩), .string nm] w fun e w' => e = .returned (.int .i64 (d.sync nm).2) ∧ ∃ fv' vs' S', Dk w' pb (d.sync nm).1 fv' vs' S' ∧ Step S S' w w' := by
  have hfind := find_any pb d fv vs S nm w h hn
  cases hg : get d.files nm with
  | none =>
    rw [hg] at hfind
    have e : Hid (d.sync nm = (d, 22)) := by show _ = _; simp [Dm.sync, hg]
    go_enter Try.func19, Try.ntmps19
    go_wp2_with (go_at_call 47; with_reducible refine hfind.mono ?_; rintro e w1 ⟨rfl, hb1⟩)
    go_ret
    rw [e.out]
    exact ⟨rfl, fv, vs, S, h.later hb1, .of_below hb1⟩
  | some f =>
    rw [hg] at hfind
    have hsp := fun w1 (hb1 : Below w.heap.size w w1) => spend_any pb d fv vs S w1 (h.later hb1)
    cases hdn : d.spend.down with
    | true =>
      have e : Hid (d.sync nm = (d.spend, 13)) := by show _ = _; simp only [Dm.sync, hg]; rw [if_pos hdn]
      rw [hdn] at hsp
      go_enter Try.func19, Try.ntmps19
      go_wp2_with (first
        | (go_at_call 47; with_reducible refine hfind.mono ?_; rintro e w1 ⟨rfl, hb1⟩; have hsp1 := hsp w1 hb1; clear hsp)
        | (go_at_call 44; with_reducible refine hsp1.mono ?_; rintro e w2 ⟨rfl, D2, st2⟩))
      go_ret
      rw [e.out]
      exact ⟨rfl, fv, vs, S, D2, (Step.of_below hb1).trans st2⟩
    | false =>
      have e : Hid (d.sync nm = ({ d.spend with files := put d.files ⟨nm, f.data, f.data.length⟩ }, 0)) := by show _ = _; simp only [Dm.sync, hg]; rw [if_neg (by rw [hdn]; simp)]
      rw [hdn] at hsp
      obtain ⟨fb, cap, i, bo, bc, rfl, hi, hil, hc, hm, hf, hv, _⟩ := h.file hg
      have hgs : get d.spend.files nm = some f := by rw [d.spend_files]; exact hg
      rw [← hi] at hfind
      have fin : ∀ w2, Dk w2 pb d.spend (.slice (some ⟨fb, 0, none⟩) d.files.length cap) vs S → ∃ S', Dk (w2.setCell ⟨fb, i * 3 + 2, none⟩ (.int .i64 f.data.length)) pb { d.spend with files := put d.files ⟨nm, f.data, f.data.length⟩ } (.slice (some ⟨fb, 0, none⟩) d.files.length cap) vs S' ∧ Step S S' w2 (w2.setCell ⟨fb, i * 3 + 2, none⟩ (.int .i64 f.data.length)) := by
        intro w2 D2
        have hfs : d.spend.files[i]? = some f := by rw [d.spend_files]; exact hf
        have he := Dm.set_put (d := d.spend) (g := ⟨nm, f.data, f.data.length⟩) (i := i) (by rw [d.spend_files]; exact h.ok.rise) hgs rfl (by rw [d.spend_files]; exact hi)
        have hok : Dm.Ok { d.spend with files := d.spend.files.set i ⟨nm, f.data, f.data.length⟩ } := by
          rw [he]
          have hnn := get_name hg
          exact h.ok.spend.put _ (by rw [d.spend_files, d.spend_limit]; have := used_del_le h.ok.rise hg; have := h.ok.room; simp; omega) (by simp) (h.ok.rng f (get_mem hg)) (by have := h.ok.name f (get_mem hg); rw [hnn] at this; exact this)
        have := D2.set2 i (f := f) ⟨nm, f.data, f.data.length⟩ hfs hv (get_name hg).symm hok (D2.fileAt hfs hv).2.2.2.2
        rw [he, d.spend_files] at this
        exact this
      have hat : ∀ w2, Dk w2 pb d.spend (.slice (some ⟨fb, 0, none⟩) d.files.length cap) vs S → w2.cell? ⟨pb, 1, none⟩ = some (.slice (some ⟨fb, 0, none⟩) d.files.length cap) ∧ w2.cell? ⟨fb, i * 3 + 1, none⟩ = some (.slice bo f.data.length bc) ∧ w2.cell? ⟨fb, i * 3 + 2, none⟩ = some (.int .i64 f.synced) ∧ w2.frozen? ⟨fb, i * 3 + 2, none⟩ = false := by
        intro w2 D2
        obtain ⟨_, b, c, z, _⟩ := D2.fileAt (f := f) (by rw [d.spend_files]; exact hf) hv
        exact ⟨D2.c1, b, c, z _⟩
      clear hi hgs hf hv
      generalize d.files.length = N at *
      generalize f.data.length = dl at *
      have hil' : (i : Int) < (N : Int) := by omega
      go_enter Try.func19, Try.ntmps19
      go_wp2_with (first
        | (go_at_call 47; with_reducible refine hfind.mono ?_; rintro e w1 ⟨rfl, hb1⟩; have hsp1 := hsp w1 hb1; clear hsp)
        | (go_at_call 44; with_reducible refine hsp1.mono ?_; rintro e w2 ⟨rfl, D2, st2⟩; obtain ⟨f1, f2, f3, f4⟩ := hat w2 D2))
      go_region
      go_wp2
      go_ret
      rw [e.out]
      obtain ⟨S', D3, st3⟩ := fin w2 D2
      exact ⟨rfl, _, vs, S', D3.drew, ((Step.of_below hb1).trans st2).trans st3.drew⟩

end Go.Proofs.Ytadnbdkbjajgdaa
