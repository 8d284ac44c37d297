/- The walk of Rename. -/
import Derived.Test.YtadnbdkbjajgdaaWalksL
namespace Go.Proofs.Ytadnbdkbjajgdaa
open Go.RowKit Go.Sort

set_option maxHeartbeats 2000000 in
theorem rename_any (pb : Nat) (d : Dm) (fv : Value) (vs : List Value) (S : List Nat) (nm to : ByteArray) (w : World) (h : Dk w pb d fv vs S) (hn : d.files.length ≤ 1000000) (hs : to.size ≤ 9223372036854775807) :
    Calls Try.prog 20 #[.pointer (some ⟨pb, 0, none⟩), .string nm, .string to] w fun e w' => e = .returned (.int .i64 (d.rename nm to).2) ∧ ∃ fv' vs' S', Dk w' pb (d.rename nm to).1 fv' vs' S' ∧ Step S S' w w' := by
  have hfind := find_any pb d fv vs S nm w h hn
  cases hg : get d.files nm with
  | none =>
    rw [hg] at hfind
    have e : Hid (d.rename nm to = (d, 22)) := by show _ = _; simp [Dm.rename, hg]
    go_enter Try.func20, Try.ntmps20
    go_wp2_with (go_at_call 47; with_reducible refine hfind.mono ?_; rintro e w1 ⟨rfl, hb1⟩)
    go_ret
    rw [e.out]
    exact ⟨rfl, fv, vs, S, h.later hb1, .of_below hb1⟩
  | some f =>
    rw [hg] at hfind
    have hmay := fun w1 => mayName_any to w1 hs
    have hsp := fun w1 (hb1 : Below w.heap.size w w1) => spend_any pb d fv vs S w1 (h.later hb1)
    cases hok : okName to with
    | false =>
      have e : Hid (d.rename nm to = (d, 1)) := by show _ = _; simp [Dm.rename, hg, hok]
      rw [hok] at hmay
      go_enter Try.func20, Try.ntmps20
      go_wp2_with (first
        | (go_at_call 47; with_reducible refine hfind.mono ?_; rintro e w1 ⟨rfl, hb1⟩)
        | (go_at_call 43; with_reducible refine (hmay w1).mono ?_; rintro e w2 ⟨rfl, rfl⟩))
      go_ret
      rw [e.out]
      exact ⟨rfl, fv, vs, S, h.later hb1, .of_below hb1⟩
    | true =>
      rw [hok] at hmay
      have h32 : 1 ≤ to.size ∧ to.size ≤ 32 := by simpa [okName] using hok
      cases hdn : d.spend.down with
      | true =>
        have e : Hid (d.rename nm to = (d.spend, 13)) := by show _ = _; simp [Dm.rename, hg, hok, hdn]
        rw [hdn] at hsp
        go_enter Try.func20, Try.ntmps20
        go_wp2_with (first
          | (go_at_call 47; with_reducible refine hfind.mono ?_; rintro e w1 ⟨rfl, hb1⟩; have hsp1 := hsp w1 hb1; clear hsp)
          | (go_at_call 43; with_reducible refine (hmay w1).mono ?_; rintro e w2 ⟨rfl, rfl⟩)
          | (go_at_call 44; with_reducible refine hsp1.mono ?_; rintro e w2 ⟨rfl, D2, st2⟩))
        go_ret
        rw [e.out]
        exact ⟨rfl, fv, vs, S, D2, (Step.of_below hb1).trans st2⟩
      | false =>
        have e : Hid (d.rename nm to = ({ d.spend with files := put (del d.files nm) ⟨to, f.data, f.synced⟩ }, 0)) := by show _ = _; simp [Dm.rename, hg, hok, hdn]
        rw [hdn] at hsp
        obtain ⟨fb, cap, i, bo, bc, rfl, hi, hil, hc, hm, hf, hv, _⟩ := h.file hg
        have hgs : get d.spend.files nm = some f := by rw [d.spend_files]; exact hg
        have hfs : d.spend.files[i]? = some f := by rw [d.spend_files]; exact hf
        rw [← hi] at hfind
        have hdel := fun w2 D2 => deleted pb d.spend fb d.files.length cap vs S nm f w2 D2 hn hgs i (by rw [d.spend_files]; exact hi) _ hv
        rw [d.spend_files] at hdel
        have hat : ∀ w2, Dk w2 pb d.spend (.slice (some ⟨fb, 0, none⟩) d.files.length cap) vs S → w2.cell? ⟨pb, 1, none⟩ = some (.slice (some ⟨fb, 0, none⟩) d.files.length cap) ∧ w2.cell? ⟨fb, i * 3, none⟩ = some (.string f.name) ∧ w2.cell? ⟨fb, i * 3 + 1, none⟩ = some (.slice bo f.data.length bc) ∧ w2.cell? ⟨fb, i * 3 + 2, none⟩ = some (.int .i64 f.synced) ∧ pb < w2.heap.size := fun w2 D2 => by
          obtain ⟨a, b, c, _⟩ := D2.fileAt hfs hv
          exact ⟨D2.c1, a, b, c, D2.lt pb D2.mem⟩
        have hokd : Dm.Ok { d.spend with files := put (del d.files nm) ⟨to, f.data, f.synced⟩ } := by
          have h1 := h.ok.spend.del nm
          rw [d.spend_files] at h1
          have hu := used_del_le h.ok.rise hg
          have hu2 := used_parts (rising_del h.ok.rise nm) to
          have hr := h.ok.room
          exact h1.put ⟨to, f.data, f.synced⟩ (by show used (del (del d.files nm) to) + _ ≤ d.spend.limit; rw [d.spend_limit]; simp; omega) (h.ok.sync f (get_mem hg)) (h.ok.rng f (get_mem hg)) h32
        have hputs : ∀ w5 fv5 vs5 S5, Dk w5 pb { d.spend with files := del d.files nm } fv5 vs5 S5 → (∀ k ∈ own (.slice bo f.data.length bc), k ∉ S5) → w5.ownsRow 0 5 1 (.slice bo f.data.length bc) f.data.length (f.data.map (Value.int .u8)) → Calls Try.prog 45 #[.pointer (some ⟨pb, 0, none⟩), .agg #[.string to, .slice bo f.data.length bc, .int .i64 f.synced]] w5 fun e w' => e = .returned (.tuple #[]) ∧ ∃ fv' vs' S', Dk w' pb { d.spend with files := put (del d.files nm) ⟨to, f.data, f.synced⟩ } fv' vs' S' ∧ Step (S5 ++ own (.slice bo f.data.length bc)) S' w5 w' := fun w5 fv5 vs5 S5 D5 hnew hd =>
          put_any pb { d.spend with files := del d.files nm } fv5 vs5 S5 ⟨to, f.data, f.synced⟩ bo bc w5 D5 (Nat.le_trans (length_del h.ok.rise nm) hn) hd hnew hokd
        clear hi hgs hf hfs hv hokd
        generalize f.data.length = dl at *
        generalize hNN : d.files.length = N at *
        clear hNN
        have hil' : (i : Int) < (N : Int) := by omega
        go_enter Try.func20, Try.ntmps20
        go_wp2_with (first
          | (go_at_call 47; with_reducible refine hfind.mono ?_; rintro e w1 ⟨rfl, hb1⟩; have hsp1 := hsp w1 hb1; clear hsp)
          | (go_at_call 43; with_reducible refine (hmay w1).mono ?_; rintro e w2 ⟨rfl, rfl⟩)
          | (go_at_call 44; with_reducible refine hsp1.mono ?_; rintro e w2 ⟨rfl, D2, st2⟩; obtain ⟨f1, f2, f3, f4, hpb⟩ := hat w2 D2; have f1o := fun o => cell_on o f1)
          | fail)
        have hbx : w2.heap.size ∉ S := fun e => by have := D2.lt _ e; omega
        have x0 : (w2.alloc (.cells #[.string f.name, .slice bo dl bc, .int .i64 f.synced] 69)).cell? ⟨w2.heap.size, 0, none⟩ = some (.string f.name) := by simp [go_sem]
        have x1 : (w2.alloc (.cells #[.string f.name, .slice bo dl bc, .int .i64 f.synced] 69)).cell? ⟨w2.heap.size, 1, none⟩ = some (.slice bo dl bc) := by simp [go_sem]
        have x2 : (w2.alloc (.cells #[.string f.name, .slice bo dl bc, .int .i64 f.synced] 69)).cell? ⟨w2.heap.size, 2, none⟩ = some (.int .i64 f.synced) := by simp [go_sem]
        have xz : (w2.alloc (.cells #[.string f.name, .slice bo dl bc, .int .i64 f.synced] 69)).frozen? ⟨w2.heap.size, 0, none⟩ = false := by simp [go_sem]
        have xs : w2.heap.size < (w2.alloc (.cells #[.string f.name, .slice bo dl bc, .int .i64 f.synced] 69)).heap.size := by simp
        have hbW : Below w2.heap.size w2 (w2.alloc (.cells #[.string f.name, .slice bo dl bc, .int .i64 f.synced] 69)) := (Below.refl _ _).alloc (Nat.le_refl _) _
        have hdW := hdel _ (D2.later hbW)
        clear hdel hat
        generalize hBX : w2.heap.size = bx at *
        have hne : bx ≠ pb := by omega
        generalize hWW : w2.alloc (.cells #[.string f.name, .slice bo dl bc, .int .i64 f.synced] 69) = W at *
        clear hWW f1o
        with_reducible refine hdW.mono ?_
        rintro e w3 ⟨rfl, g1, g2, hoff, vs', S', D4, st4, hvS, hown4⟩
        have y0 := hoff.cell x0 hbx
        have y1 := hoff.cell x1 hbx
        have y2 := hoff.cell x2 hbx
        have yz := (World.frozen?_of_block (w := W) (a := ⟨bx, 0, none⟩) (hoff.block bx xs hbx)).trans xz
        have fin : ∀ w5, Below (w3.setCell ⟨pb, 1, none⟩ (.slice (some ⟨fb, 0, none⟩) (N - 1) cap)).heap.size (w3.setCell ⟨pb, 1, none⟩ (.slice (some ⟨fb, 0, none⟩) (N - 1) cap)) w5 → w5.cell? ⟨bx, 0, none⟩ = some (.string f.name) ∧ w5.cell? ⟨bx, 1, none⟩ = some (.slice bo dl bc) ∧ w5.cell? ⟨bx, 2, none⟩ = some (.int .i64 f.synced) ∧ w5.frozen? ⟨bx, 0, none⟩ = false ∧ Step S S' w (w5.setCell ⟨bx, 0, none⟩ (.string to)) ∧
            Calls Try.prog 45 #[.pointer (some ⟨pb, 0, none⟩), .agg #[.string to, .slice bo dl bc, .int .i64 f.synced]] (w5.setCell ⟨bx, 0, none⟩ (.string to)) fun e w' => e = .returned (.tuple #[]) ∧ ∃ fv' vs' S'', Dk w' pb { d.spend with files := put (del d.files nm) ⟨to, f.data, f.synced⟩ } fv' vs' S'' ∧ Step (S' ++ own (.slice bo dl bc)) S'' (w5.setCell ⟨bx, 0, none⟩ (.string to)) w' := by
          intro w5 hb5
          have hob : Off [pb] w3 (w3.setCell ⟨pb, 1, none⟩ (.slice (some ⟨fb, 0, none⟩) (N - 1) cap)) := (Off.refl _ _).setCell (p := ⟨pb, 1, none⟩) (by simp) _
          have hbS' : bx ∉ S' := fun e => (st4.sub bx e).elim hbx (fun e => by omega)
          have ho5 : Off [bx] w5 (w5.setCell ⟨bx, 0, none⟩ (.string to)) := (Off.refl _ _).setCell (p := ⟨bx, 0, none⟩) (by simp) _
          have hbx3 : bx < w3.heap.size := World.block_lt_of_cell? _ _ y0
          refine ⟨cell_later hb5 (hob.cell y0 (by simpa using hne)), cell_later hb5 (hob.cell y1 (by simpa using hne)), cell_later hb5 (hob.cell y2 (by simpa using hne)), ?_, ?_, ?_⟩
          · rw [hb5.frozen (p := ⟨bx, 0, none⟩) (Nat.lt_of_lt_of_le hbx3 hob.size), World.frozen?_of_block (w := w3) (a := ⟨bx, 0, none⟩) (hob.block bx hbx3 (by simpa using hne))]
            exact yz
          · have s1 : Step S S' w w5 := (((Step.of_below hb1).trans st2).trans (Step.of_below (hBX ▸ hbW))).trans (st4.trans (.of_below hb5))
            refine ⟨⟨s1.off.os, s1.off.tape, s1.off.output, Nat.le_trans s1.off.size ho5.size, fun k hk hkS => ?_⟩, s1.sub⟩
            have hw2 : w.heap.size ≤ bx := by rw [← hBX]; exact Nat.le_trans hb1.size st2.off.size
            rw [ho5.block k (Nat.lt_of_lt_of_le hk s1.off.size) (by simp; omega)]
            exact s1.off.block k hk hkS
          · refine hputs _ _ vs' S' ((D4.later hb5).keep ho5 (fun k hk e => by simp at e; subst e; exact hbS' hk)) (fun k hk => (hvS k hk).2) ?_
            exact rows_off (rows_off hown4 (.of_below (S := []) hb5) (by simp)) ho5 (fun k hk e => by simp at e; subst e; exact hbx (hvS k hk).1)
        have hvS' : ∀ k ∈ own (.slice bo dl bc), k ∈ S := fun k hk => (hvS k hk).1
        clear hputs hvS hown4 st4 D4 hoff x0 x1 x2 xz xs hdW
        go_wp2_with (first
          | (go_at_call 46; with_reducible refine (sclone_any to _ (by omega)).mono ?_; rintro e w5 ⟨rfl, hb5⟩; obtain ⟨v0, v1, v2, vz, st5, hput⟩ := fin w5 hb5)
          | (go_at_call 45; with_reducible refine hput.mono ?_; rintro e w6 ⟨rfl, fv6, vs6, S6, D6, st6⟩))
        go_ret
        rw [e.out]
        exact ⟨rfl, fv6, vs6, S6, D6, st5.trans2 hvS' st6⟩

end Go.Proofs.Ytadnbdkbjajgdaa
