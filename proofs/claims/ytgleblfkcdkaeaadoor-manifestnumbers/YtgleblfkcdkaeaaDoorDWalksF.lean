/- The walk of Append. -/
import Derived.Test.YtgleblfkcdkaeaaDoorDWalksE
import Derived.Test.YtgleblfkcdkaeaaDoorDLawApp
namespace Go.Proofs.YtgleblfkcdkaeaaDoor
open Go.RowKit Go.Sort

theorem Off.frozen {S : List Nat} {w w' : World} (h : Off S w w') {a : Addr} (hl : a.block < w.heap.size) (hn : a.block ∉ S) : w'.frozen? a = w.frozen? a := World.frozen?_of_block (w := w) (h.block a.block hl hn)

/-- The data's place is written. -/
theorem Dk.set1 {w w' : World} {pb : Nat} {d : Dm} {fb n cap : Nat} {vs : List Value} {S : List Nat} (h : Dk w pb d (.slice (some ⟨fb, 0, none⟩) n cap) vs S) (i : Nat) {f : Fl} (g : Fl) {v v' : Value} (hf : d.files[i]? = some f) (hv : vs[i]? = some v) (hgn : g.name = f.name) (hgs : g.synced = f.synced) (hok : Dm.Ok { d with files := d.files.set i g })
    (ho : Off (own v) w w') (hd : w'.ownsRow 0 5 1 v' g.data.length (g.data.map (Value.int .u8))) (hnew : ∀ k ∈ own v', k ∈ own v ∨ w.heap.size ≤ k) :
    ∃ S', Dk (w'.setCell ⟨fb, i * 3 + 1, none⟩ v') pb { d with files := d.files.set i g } (.slice (some ⟨fb, 0, none⟩) n cap) (vs.set i v') S' ∧ Step S S' w (w'.setCell ⟨fb, i * 3 + 1, none⟩ v') := by
  have hnf := h.not_own hv
  have hlen := h.datas.len
  have hlt := h.lt
  have hfn : n = d.files.length := by
    rcases h.rows.2 with ⟨h', _⟩ | ⟨_, _, _, h', _⟩
    · cases h'
    · simp at h'; exact h'.2.1
  subst hfn
  have hfb : fb < w.heap.size := hlt fb (by rw [h.whole]; simp [own, Value.ownBlock])
  refine h.turned i hf hv hok ((ho.mono (by simp +contextual)).setCell (p := ⟨fb, i * 3 + 1, none⟩) (by simp [own, Value.ownBlock]) v') ?_ ?_ hnew
  · have := own_set (rows_off h.rows ho (fun k hk e => by simp [own, Value.ownBlock] at hk; subst hk; exact hnf e)) (i * 3 + 1) v'
    rwa [fcells_set1 _ _ _ _ hlen, ← fcells_same _ _ i f g hf hgn hgs] at this
  · exact own_beside hd (fun e => (hnew _ e).elim hnf (fun e => by omega))

set_option maxHeartbeats 4000000 in
theorem append_any (pb : Nat) (d : Dm) (fv : Value) (vs : List Value) (S : List Nat) (nm : ByteArray) (ao : Option Addr) (la ca : Nat) (xs : List Int) (w : World) (h : Dk w pb d fv vs S) (hn : d.files.length ≤ 1000000) (t : Tx w ao la ca xs) (hla : la ≤ 100000000) (hdis : ∀ ad, ao = some ad → 0 < la → ad.block ∉ S) :
    Calls Tryd.prog 36 #[.pointer (some ⟨pb, 0, none⟩), .string nm, .slice ao la ca] w fun e w' => e = .returned (.int .i64 (d.append nm xs).2) ∧ ∃ fv' vs' S', Dk w' pb (d.append nm xs).1 fv' vs' S' ∧ Step S S' w w' := by
  have hfind := find_any pb d fv vs S nm w h hn
  have hxl := t.len_eq
  have hcl := t.le
  have hct := t.top
  cases hg : get d.files nm with
  | none =>
    rw [hg] at hfind
    have e : Hid (d.append nm xs = (d, 22)) := by show _ = _; simp [Dm.append, hg]
    go_enter Tryd.func36, Tryd.ntmps36
    go_wp2_with (go_at_call 57; with_reducible refine hfind.mono ?_; rintro e w1 ⟨rfl, hb1⟩)
    go_ret
    rw [e.out]
    exact ⟨rfl, fv, vs, S, h.later hb1, .of_below hb1⟩
  | some f =>
    rw [hg] at hfind
    have hsp := fun w1 (hb1 : Below w.heap.size w w1) => spend_any pb d fv vs S w1 (h.later hb1)
    cases hdn : d.down with
    | true =>
      have e : Hid (d.append nm xs = (d.spend, 13)) := by show _ = _; simp [Dm.append, hg, Dm.writes, hdn]
      have c3 := h.c3
      rw [hdn] at c3
      go_enter Tryd.func36, Tryd.ntmps36
      go_wp2_with (first
        | (go_at_call 57; with_reducible refine hfind.mono ?_; rintro e w1 ⟨rfl, hb1⟩; have c3' := cell_later hb1 c3)
        | fail)
      go_quiet (fail)
      have hsp1 := hsp _ (below_drewN hb1 nq)
      go_wp2_with (go_at_call 54; with_reducible refine hsp1.mono ?_; rintro e w2 ⟨rfl, D2, st2⟩)
      go_ret
      rw [e.out]
      exact ⟨rfl, fv, vs, S, D2, (Step.of_below (below_drewN hb1 nq)).trans st2⟩
    | false =>
      have c3 := h.c3
      rw [hdn] at c3
      have c0 := h.c0
      have hlim := h.ok.lim
      have hroom := h.ok.room
      have hused := fun w1 (hb1 : Below w.heap.size w w1) dq osq => used_any pb d fv vs S (grow (redrawn w1 dq) osq) ((h.later hb1).later (below_regrown w1 dq osq)) hn
      by_cases hw : la + used d.files ≤ d.limit
      · obtain ⟨fb, cap, i, bo, bc, rfl, hi, hil, hc, hm, hf, hv, hr, _⟩ := h.file hg
        have hgs : get d.spend.files nm = some f := by rw [d.spend_files]; exact hg
        have hfs : d.spend.files[i]? = some f := by rw [d.spend_files]; exact hf
        have hdl := used_mem (get_mem hg)
        have e : Hid (d.append nm xs = ({ d.spend with files := put d.files ⟨nm, f.data ++ xs, f.synced⟩ }, if d.spend.down = false then 0 else 13)) := by
          show _ = _
          simp [Dm.append, hg, Dm.writes, hdn, hxl, hw]
        rw [← hi] at hfind
        -- what the region finds, and what it leaves
        have hat : ∀ w2, Dk w2 pb d.spend (.slice (some ⟨fb, 0, none⟩) d.files.length cap) vs S → Step S S w w2 → w2.cell? ⟨pb, 1, none⟩ = some (.slice (some ⟨fb, 0, none⟩) d.files.length cap) ∧ w2.cell? ⟨fb, i * 3 + 1, none⟩ = some (.slice bo f.data.length bc) ∧ w2.frozen? ⟨fb, i * 3 + 1, none⟩ = false ∧ w2.drew.ownsRow 0 5 1 (.slice bo f.data.length bc) f.data.length (f.data.map (Value.int .u8)) ∧ Tx w2.drew ao la ca xs := by
          intro w2 D2 st
          obtain ⟨_, b, c, z, o⟩ := D2.fileAt hfs hv
          refine ⟨D2.c1, b, z _, rows_off o (Off.refl [] _).drew (by simp), ⟨t.len_eq, t.le, t.top, t.bare, fun ad ha j hj => ?_, t.rng⟩⟩
          exact st.off.cell (t.cell ad ha j hj) (by rw [add_block]; exact hdis ad ha (by omega))
        have hpo : pb ∉ own (.slice bo f.data.length bc) ∧ fb ∉ own (.slice bo f.data.length bc) := by
          obtain ⟨_, _, _, _, _, _, _, _, _, _, _, hv', _, _, _, _, _, _, _, ho⟩ := h.file hg
          refine ⟨fun e => ?_, h.not_own hv⟩
          have := h.once
          rw [h.whole, List.nodup_cons] at this
          exact this.1 (List.mem_append_right _ (mem_flat_at hv e))
        have fin : ∀ w2 w3 bo' cap', Dk w2 pb d.spend (.slice (some ⟨fb, 0, none⟩) d.files.length cap) vs S → w3.ownsRow 0 5 1 (.slice bo' (f.data.length + la) cap') (f.data.length + la) ((f.data ++ xs).map (Value.int .u8)) → Off (own (.slice bo f.data.length bc)) w2.drew w3 → (∀ k ∈ own (.slice bo' (f.data.length + la) cap'), k ∈ own (.slice bo f.data.length bc) ∨ w2.heap.size ≤ k) →
            ∃ S', Dk (w3.setCell ⟨fb, i * 3 + 1, none⟩ (.slice bo' (f.data.length + la) cap')) pb { d.spend with files := put d.files ⟨nm, f.data ++ xs, f.synced⟩ } (.slice (some ⟨fb, 0, none⟩) d.files.length cap) (vs.set i (.slice bo' (f.data.length + la) cap')) S' ∧ Step S S' w2 (w3.setCell ⟨fb, i * 3 + 1, none⟩ (.slice bo' (f.data.length + la) cap')) := by
          intro w2 w3 bo' cap' D2 ho3 hoff hsub
          have he := Dm.set_put (d := d.spend) (g := ⟨nm, f.data ++ xs, f.synced⟩) (i := i) (by rw [d.spend_files]; exact h.ok.rise) hgs rfl (by rw [d.spend_files]; exact hi)
          have hok : Dm.Ok { d.spend with files := d.spend.files.set i ⟨nm, f.data ++ xs, f.synced⟩ } := by
            rw [he]
            have hnn := get_name hg
            refine h.ok.spend.put _ (by rw [d.spend_files, d.spend_limit]; have := used_del_le h.ok.rise hg; simp; omega) (by have := h.ok.sync f (get_mem hg); simp; omega) (fun n hn => ?_) (by have := h.ok.name f (get_mem hg); rw [hnn] at this; exact this)
            rcases List.mem_append.1 hn with hn | hn
            · exact h.ok.rng f (get_mem hg) n hn
            · exact t.rng n hn
          have hoff' : Off (own (.slice bo f.data.length bc)) w2 w3 := ⟨hoff.os, hoff.tape, hoff.output, hoff.size, hoff.block⟩
          have := D2.set1 i (f := f) ⟨nm, f.data ++ xs, f.synced⟩ hfs hv (get_name hg).symm rfl hok hoff' (by simpa [hxl] using ho3) hsub
          rw [he, d.spend_files] at this
          exact this
        clear hi hgs hf hv hr
        have hwi : ((la : Int) ≤ (d.limit : Int) - (used d.files : Int)) := by omega
        have hwr : IntKind.i64.wrap ((d.limit : Int) - (used d.files : Int)) = (d.limit : Int) - (used d.files : Int) := by rw [IntKind.wrap_i64]; omega
        have hdl2 : f.data.length + la ≤ 1000000000 := by omega
        generalize d.files.length = N at *
        generalize used d.files = us at *
        have hil' : (i : Int) < (N : Int) := by omega
        go_enter Tryd.func36, Tryd.ntmps36
        go_wp2_with (first
          | (go_at_call 57; with_reducible refine hfind.mono ?_; rintro e w1 ⟨rfl, hb1⟩)
          | fail)
        have hused1 := hused w1 hb1
        have q3 := fun dq osq => cell_regrown (cell_later hb1 c3) dq osq
        have q0 := fun dq osq => cell_regrown (cell_later hb1 c0) dq osq
        clear hused
        refine wp_region_quiet_below (by kernel_rfl) (by kernel_rfl) ?_
        repeat (quiet_step ((go_at_call 58; exact Calls.regrown_of (hused1 _ _))))
        refine wpQuiet_nil ?_
        intro _ hw'
        obtain ⟨⟨dq, osq⟩, hw''⟩ := hw'
        subst hw''
        have hb2 : Below w.heap.size w (grow (redrawn w1 dq) osq) := hb1.trans ((below_regrown w1 dq osq).mono hb1.size)
        generalize grow (redrawn w1 dq) osq = W2 at hb2 ⊢
        have hsp1 := hsp W2 hb2
        clear hsp q3 q0 hused1
        go_wp2_with (first
          | (go_at_call 54; with_reducible refine hsp1.mono ?_; rintro e w2 ⟨rfl, D2, st2⟩; have st := (Step.of_below (S := S) hb2).trans st2; obtain ⟨f1, f2, f3, f4, f5⟩ := hat w2 D2 st)
          | fail)
        have hfb : fb < w2.heap.size := World.block_lt_of_cell? _ _ f2
        clear hat hfind
        go_region_law (refine dstep_app rfl (.tmp 51) (.tmp 52) rfl (.slice bo f.data.length bc) f.data.length f.data rfl f4 ao la ca xs rfl f5 hdl2 ?_; intro bo' cap' w3 ho3 hoff3 hsub3; have g1 := hoff3.cell (a := ⟨pb, 1, none⟩) f1 hpo.1; have g2 := hoff3.cell (a := ⟨fb, i * 3 + 1, none⟩) f2 hpo.2; have g3 := (hoff3.frozen (a := ⟨fb, i * 3 + 1, none⟩) hfb hpo.2).trans f3)
        all_goals
          obtain ⟨S', D3, st3⟩ := fin w2 w3 bo' cap' D2 ho3 hoff3 hsub3
          cases hd2 : d.spend.down with
          | true =>
            rw [hd2] at e D3
            go_wp2
            go_ret
            rw [e.out]
            exact ⟨rfl, _, _, S', D3, st.trans st3⟩
          | false =>
            rw [hd2] at e D3
            go_wp2
            go_ret
            rw [e.out]
            exact ⟨rfl, _, _, S', D3, st.trans st3⟩
      · have e : Hid (d.append nm xs = (d.spend, 13)) := by show _ = _; simp [Dm.append, hg, Dm.writes, hdn, hxl, hw]
        have hwi : ¬ ((la : Int) ≤ (d.limit : Int) - (used d.files : Int)) := by omega
        have hwj : decide ((la : Int) ≤ (d.limit : Int) - (used d.files : Int)) = false := by simp; omega
        have hwr : IntKind.i64.wrap ((d.limit : Int) - (used d.files : Int)) = (d.limit : Int) - (used d.files : Int) := by rw [IntKind.wrap_i64]; omega
        generalize used d.files = us at *
        go_enter Tryd.func36, Tryd.ntmps36
        go_wp2_with (first
          | (go_at_call 57; with_reducible refine hfind.mono ?_; rintro e w1 ⟨rfl, hb1⟩)
          | fail)
        have hused1 := hused w1 hb1
        have q3 := fun dq osq => cell_regrown (cell_later hb1 c3) dq osq
        have q0 := fun dq osq => cell_regrown (cell_later hb1 c0) dq osq
        clear hused
        refine wp_region_quiet_below (by kernel_rfl) (by kernel_rfl) ?_
        repeat (quiet_step ((go_at_call 58; exact Calls.regrown_of (hused1 _ _))))
        refine wpQuiet_nil ?_
        intro _ hw'
        obtain ⟨⟨dq, osq⟩, hw''⟩ := hw'
        subst hw''
        have hb2 : Below w.heap.size w (grow (redrawn w1 dq) osq) := hb1.trans ((below_regrown w1 dq osq).mono hb1.size)
        generalize grow (redrawn w1 dq) osq = W2 at hb2 ⊢
        have hsp1 := hsp W2 hb2
        clear hsp q3 q0 hused1
        go_wp2_with (first
          | (go_at_call 54; with_reducible refine hsp1.mono ?_; rintro e w2 ⟨rfl, D2, st2⟩)
          | fail)
        go_ret
        rw [e.out]
        exact ⟨rfl, fv, vs, S, D2, (Step.of_below (S := S) hb2).trans st2⟩

end Go.Proofs.YtgleblfkcdkaeaaDoor
