/- The walk of put. -/
import Derived.Test.YtadnbdkbjajgdaaMemC
import Derived.Test.YtadnbdkbjajgdaaWalksE
namespace Go.Proofs.Ytadnbdkbjajgdaa
open Go.RowKit Go.Sort

theorem cell_on {w : World} {a : Addr} {v : Value} (o : Obj) (h : w.cell? a = some v) : (w.alloc o).cell? a = some v := by
  rw [World.cell?_alloc_lt _ _ _ (World.block_lt_of_cell? _ _ h)]; exact h

set_option maxHeartbeats 2000000 in
theorem put_some (pb : Nat) (d : Dm) (fv : Value) (vs : List Value) (S : List Nat) (f g : Fl) (bo : Option Addr) (bc : Nat) (w : World) (h : Dk w pb d fv vs S) (hn : d.files.length ≤ 1000000) (hd : w.ownsRow 0 5 1 (.slice bo f.data.length bc) f.data.length (f.data.map (Value.int .u8))) (hnew : ∀ k ∈ own (.slice bo f.data.length bc), k ∉ S) (hok : Dm.Ok { d with files := put d.files f }) (hg : get d.files f.name = some g) :
    Calls Try.prog 45 #[.pointer (some ⟨pb, 0, none⟩), .agg #[.string f.name, .slice bo f.data.length bc, .int .i64 f.synced]] w fun e w' => e = .returned (.tuple #[]) ∧ ∃ fv' vs' S', Dk w' pb { d with files := put d.files f } fv' vs' S' ∧ Step (S ++ own (.slice bo f.data.length bc)) S' w w' := by
  obtain ⟨fb, cap, i, bo0, bc0, rfl, hi, hil, hc, hm, hf, hv, _⟩ := h.file hg
  have hb1 : Below w.heap.size w (w.alloc (.cells #[.string f.name, .slice bo f.data.length bc, .int .i64 f.synced] 69)) := (Below.refl _ _).alloc (Nat.le_refl _) _
  have hfind := find_any pb d _ vs S f.name _ (h.later hb1) hn
  rw [hg, ← hi] at hfind
  have x0 : (w.alloc (.cells #[.string f.name, .slice bo f.data.length bc, .int .i64 f.synced] 69)).cell? ⟨w.heap.size, 0, none⟩ = some (.string f.name) := by simp [go_sem]
  have x1 : (w.alloc (.cells #[.string f.name, .slice bo f.data.length bc, .int .i64 f.synced] 69)).cell? ⟨w.heap.size, 1, none⟩ = some (.slice bo f.data.length bc) := by simp [go_sem]
  have x2 : (w.alloc (.cells #[.string f.name, .slice bo f.data.length bc, .int .i64 f.synced] 69)).cell? ⟨w.heap.size, 2, none⟩ = some (.int .i64 f.synced) := by simp [go_sem]
  have fin : ∀ w2, Below w.heap.size w w2 → (w2.cell? ⟨pb, 1, none⟩ = some (.slice (some ⟨fb, 0, none⟩) d.files.length cap) ∧ w2.cell? ⟨fb, i * 3, none⟩ = some (.string g.name) ∧ w2.cell? ⟨fb, i * 3 + 1, none⟩ = some (.slice bo0 g.data.length bc0) ∧ w2.cell? ⟨fb, i * 3 + 2, none⟩ = some (.int .i64 g.synced) ∧ w2.frozen? ⟨fb, i * 3, none⟩ = false ∧ w2.frozen? ⟨fb, i * 3 + 1, none⟩ = false ∧ w2.frozen? ⟨fb, i * 3 + 2, none⟩ = false) ∧
      ∃ S', Dk (((w2.setCell ⟨fb, i * 3, none⟩ (.string f.name)).setCell ⟨fb, i * 3 + 1, none⟩ (.slice bo f.data.length bc)).setCell ⟨fb, i * 3 + 2, none⟩ (.int .i64 f.synced)) pb { d with files := put d.files f } (.slice (some ⟨fb, 0, none⟩) d.files.length cap) (vs.set i (.slice bo f.data.length bc)) S' ∧ Step (S ++ own (.slice bo f.data.length bc)) S' w2 (((w2.setCell ⟨fb, i * 3, none⟩ (.string f.name)).setCell ⟨fb, i * 3 + 1, none⟩ (.slice bo f.data.length bc)).setCell ⟨fb, i * 3 + 2, none⟩ (.int .i64 f.synced)) := by
    intro w2 hb
    have D2 := h.later hb
    obtain ⟨a, b, c, z, _⟩ := D2.fileAt hf hv
    refine ⟨⟨D2.c1, a, b, c, z _, z _, z _⟩, ?_⟩
    have he := Dm.set_put (d := d) (g := f) (i := i) h.ok.rise hg rfl hi
    have := D2.laid i (g := f) hf hv (get_name hg).symm (by rw [he]; exact hok) (rows_off hd (.of_below (S := []) hb) (by simp)) hnew
    rw [he] at this
    exact this
  clear hi hf hv h
  generalize d.files.length = N at *
  generalize f.data.length = dl at *
  generalize f.name = nm at *
  generalize f.synced = sy at *
  have hil' : (i : Int) < (N : Int) := by omega
  go_enter Try.func45, Try.ntmps45
  go_wp2_with (go_at_call 47; with_reducible refine hfind.mono ?_; rintro e w2 ⟨rfl, hb2⟩; have y0 := cell_later hb2 x0; have y1 := cell_later hb2 x1; have y2 := cell_later hb2 x2; have hbw := hb1.trans (hb2.mono hb1.size); obtain ⟨⟨p1, q0, q1, q2, z0, z1, z2⟩, fin2⟩ := fin w2 hbw)
  go_region
  go_wp2
  refine bodyPost_ret (results_none rfl _ _ _) rfl ?_
  obtain ⟨S', D3, st3⟩ := fin2
  exact ⟨rfl, _, _, S', D3.drew, (Step.of_below hbw).trans st3.drew⟩

set_option maxHeartbeats 2000000 in
theorem put_none (pb : Nat) (d : Dm) (fv : Value) (vs : List Value) (S : List Nat) (f : Fl) (bo : Option Addr) (bc : Nat) (w : World) (h : Dk w pb d fv vs S) (hn : d.files.length ≤ 1000000) (hd : w.ownsRow 0 5 1 (.slice bo f.data.length bc) f.data.length (f.data.map (Value.int .u8))) (hnew : ∀ k ∈ own (.slice bo f.data.length bc), k ∉ S) (hok : Dm.Ok { d with files := put d.files f }) (hg : get d.files f.name = none) :
    Calls Try.prog 45 #[.pointer (some ⟨pb, 0, none⟩), .agg #[.string f.name, .slice bo f.data.length bc, .int .i64 f.synced]] w fun e w' => e = .returned (.tuple #[]) ∧ ∃ fv' vs' S', Dk w' pb { d with files := put d.files f } fv' vs' S' ∧ Step (S ++ own (.slice bo f.data.length bc)) S' w w' := by
  obtain ⟨ao, cap, rfl, hc, hm⟩ := h.form
  have hil := length_parts h.ok.rise f.name
  rw [hg] at hil
  have hb1 : Below w.heap.size w (w.alloc (.cells #[.string f.name, .slice bo f.data.length bc, .int .i64 f.synced] 69)) := (Below.refl _ _).alloc (Nat.le_refl _) _
  have hfind := find_any pb d _ vs S f.name _ (h.later hb1) hn
  rw [hg] at hfind
  have x0 : (w.alloc (.cells #[.string f.name, .slice bo f.data.length bc, .int .i64 f.synced] 69)).cell? ⟨w.heap.size, 0, none⟩ = some (.string f.name) := by simp [go_sem]
  have x1 : (w.alloc (.cells #[.string f.name, .slice bo f.data.length bc, .int .i64 f.synced] 69)).cell? ⟨w.heap.size, 1, none⟩ = some (.slice bo f.data.length bc) := by simp [go_sem]
  have x2 : (w.alloc (.cells #[.string f.name, .slice bo f.data.length bc, .int .i64 f.synced] 69)).cell? ⟨w.heap.size, 2, none⟩ = some (.int .i64 f.synced) := by simp [go_sem]
  have fin : ∀ w2, Below w.heap.size w w2 → (w2.cell? ⟨pb, 1, none⟩ = some (.slice ao d.files.length cap) ∧ w2.frozen? ⟨pb, 1, none⟩ = false) ∧
      Calls Try.prog 56 #[.slice ao d.files.length cap, .int .i64 (lo d.files f.name).length, .slice (some ⟨w2.heap.size, 0, none⟩) 1 1] ((w2.alloc (.cells #[.string f.name, .slice bo f.data.length bc, .int .i64 f.synced] 69)).drew) fun e w3 => ∃ ao' cap', e = .returned (.slice ao' (d.files.length + 1) cap') ∧ w3.cell? ⟨pb, 1, none⟩ = some (.slice ao d.files.length cap) ∧ w3.frozen? ⟨pb, 1, none⟩ = false ∧
        ∃ fv' vs' S', Dk (w3.setCell ⟨pb, 1, none⟩ (.slice ao' (d.files.length + 1) cap')) pb { d with files := put d.files f } fv' vs' S' ∧ Step (S ++ own (.slice bo f.data.length bc)) S' w (w3.setCell ⟨pb, 1, none⟩ (.slice ao' (d.files.length + 1) cap')) := by
    intro w2 hb
    have D2 := h.later hb
    refine ⟨⟨D2.c1, D2.z 1⟩, ?_⟩
    obtain ⟨W, hW⟩ : ∃ W, W = (w2.alloc (.cells #[.string f.name, .slice bo f.data.length bc, .int .i64 f.synced] 69)).drew := ⟨_, rfl⟩
    have hbW : Below w2.heap.size w2 W := by rw [hW]; exact ((Below.refl _ _).alloc (Nat.le_refl _) _).drew
    have hbB : Below w.heap.size w W := hb.trans (hbW.mono hb.size)
    have DW := h.later hbB
    have hblk : Blk W w2.heap.size [.string f.name, .slice bo f.data.length bc, .int .i64 f.synced] := by rw [hW]; show ((w2.heap.push _)[w2.heap.size]? = _); simp
    rw [← hW]
    have hlt2 := D2.lt
    have hpbf : pb ∉ own (.slice ao d.files.length cap) := by
      have hn := h.once
      rw [h.whole, List.nodup_cons] at hn
      exact fun e => hn.1 (List.mem_append_left _ e)
    refine (insert_any (.slice ao d.files.length cap) d.files.length (lo d.files f.name).length (fcells d.files vs) _ w2.heap.size W DW.rows (by omega) (fcells_one _ _ DW.datas) rfl (by intro u hu; simp at hu; rcases hu with rfl | rfl | rfl <;> rfl) hblk (fun e => by have := hlt2 w2.heap.size (by rw [h.whole]; simp [e]); omega) hn).mono ?_
    rintro e w3 ⟨ao', cap', rfl, hr, ho, hsub⟩
    have he : ({ d with files := d.files.take (lo d.files f.name).length ++ f :: d.files.drop (lo d.files f.name).length } : Dm) = { d with files := put d.files f } := by rw [ins_put h.ok.rise hg]
    obtain ⟨S', D', st⟩ := DW.came (lo d.files f.name).length (by omega) (g := f) (by rw [he]; exact hok) (rows_off hd (.of_below (S := []) hbB) (by simp)) hnew ho hsub hr
    rw [he] at D'
    refine ⟨ao', cap', rfl, ho.cell DW.c1 hpbf, ?_, _, _, S', D', (Step.of_below hbB).trans st⟩
    rw [World.frozen?_of_block (w := W) (ho.block pb (DW.lt pb DW.mem) hpbf)]
    exact DW.z 1
  clear h hd hil
  generalize (lo d.files f.name).length = i at *
  generalize d.files.length = N at *
  generalize f.data.length = dl at *
  generalize f.name = nm at *
  generalize f.synced = sy at *
  go_enter Try.func45, Try.ntmps45
  go_wp2_with (go_at_call 47; with_reducible refine hfind.mono ?_; rintro e w2 ⟨rfl, hb2⟩; have y0 := cell_later hb2 x0; have y1 := cell_later hb2 x1; have y2 := cell_later hb2 x2; have hbw := hb1.trans (hb2.mono hb1.size); obtain ⟨⟨p1, z1⟩, fin2⟩ := fin w2 hbw)
  have p1o := fun o => cell_on o p1
  go_region_with (go_at_call 56; with_reducible refine fin2.mono ?_; rintro e w3 ⟨ao', cap', rfl, p3, z3, fin3⟩)
  all_goals
    go_wp2
    go_end0
    exact ⟨rfl, fin3⟩

end Go.Proofs.Ytadnbdkbjajgdaa
