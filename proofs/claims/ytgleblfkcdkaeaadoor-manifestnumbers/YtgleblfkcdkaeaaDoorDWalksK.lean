/- The walk of put. The walks of Create, Remove, Rename. The walk of Rename. -/
import Derived.Test.YtgleblfkcdkaeaaDoorDMemC
import Derived.Test.YtgleblfkcdkaeaaDoorDWalksE
namespace Go.Proofs.YtgleblfkcdkaeaaDoor

section
open Go.RowKit Go.Sort

theorem cell_on {w : World} {a : Addr} {v : Value} (o : Obj) (h : w.cell? a = some v) : (w.alloc o).cell? a = some v := by
  rw [World.cell?_alloc_lt _ _ _ (World.block_lt_of_cell? _ _ h)]; exact h

set_option maxHeartbeats 2000000 in
theorem put_some (pb : Nat) (d : Dm) (fv : Value) (vs : List Value) (S : List Nat) (f g : Fl) (bo : Option Addr) (bc : Nat) (w : World) (h : Dk w pb d fv vs S) (hn : d.files.length ≤ 1000000) (hd : w.ownsRow 0 5 1 (.slice bo f.data.length bc) f.data.length (f.data.map (Value.int .u8))) (hnew : ∀ k ∈ own (.slice bo f.data.length bc), k ∉ S) (hok : Dm.Ok { d with files := put d.files f }) (hg : get d.files f.name = some g) :
    Calls Tryd.prog 55 #[.pointer (some ⟨pb, 0, none⟩), .agg #[.string f.name, .slice bo f.data.length bc, .int .i64 f.synced]] w fun e w' => e = .returned (.tuple #[]) ∧ ∃ fv' vs' S', Dk w' pb { d with files := put d.files f } fv' vs' S' ∧ Step (S ++ own (.slice bo f.data.length bc)) S' w w' := by
  obtain ⟨fb, cap, i, bo0, bc0, rfl, hi, hil, hc, hm, hf, hv, _⟩ := h.file hg
  have hb1 : Below w.heap.size w (w.alloc (.cells #[.string f.name, .slice bo f.data.length bc, .int .i64 f.synced] 76)) := (Below.refl _ _).alloc (Nat.le_refl _) _
  have hfind := find_any pb d _ vs S f.name _ (h.later hb1) hn
  rw [hg, ← hi] at hfind
  have x0 : (w.alloc (.cells #[.string f.name, .slice bo f.data.length bc, .int .i64 f.synced] 76)).cell? ⟨w.heap.size, 0, none⟩ = some (.string f.name) := by simp [go_sem]
  have x1 : (w.alloc (.cells #[.string f.name, .slice bo f.data.length bc, .int .i64 f.synced] 76)).cell? ⟨w.heap.size, 1, none⟩ = some (.slice bo f.data.length bc) := by simp [go_sem]
  have x2 : (w.alloc (.cells #[.string f.name, .slice bo f.data.length bc, .int .i64 f.synced] 76)).cell? ⟨w.heap.size, 2, none⟩ = some (.int .i64 f.synced) := by simp [go_sem]
  have fin : ∀ w2, Below w.heap.size w w2 → (w2.cell? ⟨pb, 1, none⟩ = some (.slice (some ⟨fb, 0, none⟩) d.files.length cap) ∧ w2.cell? ⟨fb, i * 3, none⟩ = some (.string g.name) ∧ w2.cell? ⟨fb, i * 3 + 1, none⟩ = some (.slice bo0 g.data.length bc0) ∧ w2.cell? ⟨fb, i * 3 + 2, none⟩ = some (.int .i64 g.synced) ∧ w2.frozen? ⟨fb, i * 3, none⟩ = false ∧ w2.frozen? ⟨fb, i * 3 + 1, none⟩ = false ∧ w2.frozen? ⟨fb, i * 3 + 2, none⟩ = false) ∧
      ∃ S', Dk (((w2.setCell ⟨fb, i * 3, none⟩ (.string f.name)).setCell ⟨fb, i * 3 + 1, none⟩ (.slice bo f.data.length bc)).setCell ⟨fb, i * 3 + 2, none⟩ (.int .i64 f.synced)) pb { d with files := put d.files f } (.slice (some ⟨fb, 0, none⟩) d.files.length cap) (vs.set i (.slice bo f.data.length bc)) S' ∧ Step (S ++ own (.slice bo f.data.length bc)) S' w2 (((w2.setCell ⟨fb, i * 3, none⟩ (.string f.name)).setCell ⟨fb, i * 3 + 1, none⟩ (.slice bo f.data.length bc)).setCell ⟨fb, i * 3 + 2, none⟩ (.int .i64 f.synced)) := by
    intro w2 hb
    have D2 := h.later hb
    obtain ⟨a, b, c, z, _⟩ := D2.fileAt hf hv
    refine ⟨⟨D2.c1, a, b, c, z _, z _, z _⟩, ?_⟩
    have he := Dm.set_put (d := d) (g := f) (i := i) h.ok.rise hg rfl hi
    have := D2.laid i (g := f) hf hv (get_name hg).symm (by rw [he]; exact hok) (rows_off hd (.of_below (S := []) hb) (by simp)) hnew
    rw [he] at this
    exact this
  clear hi hf hv h
  generalize d.files.length = N at *
  generalize f.data.length = dl at *
  generalize f.name = nm at *
  generalize f.synced = sy at *
  have hil' : (i : Int) < (N : Int) := by omega
  go_enter Tryd.func55, Tryd.ntmps55
  go_wp2_with (go_at_call 57; with_reducible refine hfind.mono ?_; rintro e w2 ⟨rfl, hb2⟩; have y0 := cell_later hb2 x0; have y1 := cell_later hb2 x1; have y2 := cell_later hb2 x2; have hbw := hb1.trans (hb2.mono hb1.size); obtain ⟨⟨p1, q0, q1, q2, z0, z1, z2⟩, fin2⟩ := fin w2 hbw)
  go_region
  go_wp2
  refine bodyPost_ret (results_none rfl _ _ _) rfl ?_
  obtain ⟨S', D3, st3⟩ := fin2
  exact ⟨rfl, _, _, S', D3.drew, (Step.of_below hbw).trans st3.drew⟩

set_option maxHeartbeats 2000000 in
theorem put_none (pb : Nat) (d : Dm) (fv : Value) (vs : List Value) (S : List Nat) (f : Fl) (bo : Option Addr) (bc : Nat) (w : World) (h : Dk w pb d fv vs S) (hn : d.files.length ≤ 1000000) (hd : w.ownsRow 0 5 1 (.slice bo f.data.length bc) f.data.length (f.data.map (Value.int .u8))) (hnew : ∀ k ∈ own (.slice bo f.data.length bc), k ∉ S) (hok : Dm.Ok { d with files := put d.files f }) (hg : get d.files f.name = none) :
    Calls Tryd.prog 55 #[.pointer (some ⟨pb, 0, none⟩), .agg #[.string f.name, .slice bo f.data.length bc, .int .i64 f.synced]] w fun e w' => e = .returned (.tuple #[]) ∧ ∃ fv' vs' S', Dk w' pb { d with files := put d.files f } fv' vs' S' ∧ Step (S ++ own (.slice bo f.data.length bc)) S' w w' := by
  obtain ⟨ao, cap, rfl, hc, hm⟩ := h.form
  have hil := length_parts h.ok.rise f.name
  rw [hg] at hil
  have hb1 : Below w.heap.size w (w.alloc (.cells #[.string f.name, .slice bo f.data.length bc, .int .i64 f.synced] 76)) := (Below.refl _ _).alloc (Nat.le_refl _) _
  have hfind := find_any pb d _ vs S f.name _ (h.later hb1) hn
  rw [hg] at hfind
  have x0 : (w.alloc (.cells #[.string f.name, .slice bo f.data.length bc, .int .i64 f.synced] 76)).cell? ⟨w.heap.size, 0, none⟩ = some (.string f.name) := by simp [go_sem]
  have x1 : (w.alloc (.cells #[.string f.name, .slice bo f.data.length bc, .int .i64 f.synced] 76)).cell? ⟨w.heap.size, 1, none⟩ = some (.slice bo f.data.length bc) := by simp [go_sem]
  have x2 : (w.alloc (.cells #[.string f.name, .slice bo f.data.length bc, .int .i64 f.synced] 76)).cell? ⟨w.heap.size, 2, none⟩ = some (.int .i64 f.synced) := by simp [go_sem]
  have fin : ∀ w2, Below w.heap.size w w2 → (w2.cell? ⟨pb, 1, none⟩ = some (.slice ao d.files.length cap) ∧ w2.frozen? ⟨pb, 1, none⟩ = false) ∧
      Calls Tryd.prog 64 #[.slice ao d.files.length cap, .int .i64 (lo d.files f.name).length, .slice (some ⟨w2.heap.size, 0, none⟩) 1 1] ((w2.alloc (.cells #[.string f.name, .slice bo f.data.length bc, .int .i64 f.synced] 76)).drew) fun e w3 => ∃ ao' cap', e = .returned (.slice ao' (d.files.length + 1) cap') ∧ w3.cell? ⟨pb, 1, none⟩ = some (.slice ao d.files.length cap) ∧ w3.frozen? ⟨pb, 1, none⟩ = false ∧
        ∃ fv' vs' S', Dk (w3.setCell ⟨pb, 1, none⟩ (.slice ao' (d.files.length + 1) cap')) pb { d with files := put d.files f } fv' vs' S' ∧ Step (S ++ own (.slice bo f.data.length bc)) S' w (w3.setCell ⟨pb, 1, none⟩ (.slice ao' (d.files.length + 1) cap')) := by
    intro w2 hb
    have D2 := h.later hb
    refine ⟨⟨D2.c1, D2.z 1⟩, ?_⟩
    obtain ⟨W, hW⟩ : ∃ W, W = (w2.alloc (.cells #[.string f.name, .slice bo f.data.length bc, .int .i64 f.synced] 76)).drew := ⟨_, rfl⟩
    have hbW : Below w2.heap.size w2 W := by rw [hW]; exact ((Below.refl _ _).alloc (Nat.le_refl _) _).drew
    have hbB : Below w.heap.size w W := hb.trans (hbW.mono hb.size)
    have DW := h.later hbB
    have hblk : Blk W w2.heap.size [.string f.name, .slice bo f.data.length bc, .int .i64 f.synced] := by rw [hW]; show ((w2.heap.push _)[w2.heap.size]? = _); simp
    rw [← hW]
    have hlt2 := D2.lt
    have hpbf : pb ∉ own (.slice ao d.files.length cap) := by
      have hn := h.once
      rw [h.whole, List.nodup_cons] at hn
      exact fun e => hn.1 (List.mem_append_left _ e)
    refine (insert_any (.slice ao d.files.length cap) d.files.length (lo d.files f.name).length (fcells d.files vs) _ w2.heap.size W DW.rows (by omega) (fcells_one _ _ DW.datas) rfl (by intro u hu; simp at hu; rcases hu with rfl | rfl | rfl <;> rfl) hblk (fun e => by have := hlt2 w2.heap.size (by rw [h.whole]; simp [e]); omega) hn).mono ?_
    rintro e w3 ⟨ao', cap', rfl, hr, ho, hsub⟩
    have he : ({ d with files := d.files.take (lo d.files f.name).length ++ f :: d.files.drop (lo d.files f.name).length } : Dm) = { d with files := put d.files f } := by rw [ins_put h.ok.rise hg]
    obtain ⟨S', D', st⟩ := DW.came (lo d.files f.name).length (by omega) (g := f) (by rw [he]; exact hok) (rows_off hd (.of_below (S := []) hbB) (by simp)) hnew ho hsub hr
    rw [he] at D'
    refine ⟨ao', cap', rfl, ho.cell DW.c1 hpbf, ?_, _, _, S', D', (Step.of_below hbB).trans st⟩
    rw [World.frozen?_of_block (w := W) (ho.block pb (DW.lt pb DW.mem) hpbf)]
    exact DW.z 1
  clear h hd hil
  generalize (lo d.files f.name).length = i at *
  generalize d.files.length = N at *
  generalize f.data.length = dl at *
  generalize f.name = nm at *
  generalize f.synced = sy at *
  go_enter Tryd.func55, Tryd.ntmps55
  go_wp2_with (go_at_call 57; with_reducible refine hfind.mono ?_; rintro e w2 ⟨rfl, hb2⟩; have y0 := cell_later hb2 x0; have y1 := cell_later hb2 x1; have y2 := cell_later hb2 x2; have hbw := hb1.trans (hb2.mono hb1.size); obtain ⟨⟨p1, z1⟩, fin2⟩ := fin w2 hbw)
  have p1o := fun o => cell_on o p1
  go_region_with (go_at_call 64; with_reducible refine fin2.mono ?_; rintro e w3 ⟨ao', cap', rfl, p3, z3, fin3⟩)
  all_goals
    go_wp2
    go_end0
    exact ⟨rfl, fin3⟩
end

section
open Go.RowKit Go.Sort

theorem Step.trans2 {S S' S'' X : List Nat} {a b c : World} (h : Step S S' a b) (hX : ∀ k ∈ X, k ∈ S) (k : Step (S' ++ X) S'' b c) : Step S S'' a c := by
  have h2 : Step S (S' ++ X) a b := ⟨h.off, fun i hi => by
    rcases List.mem_append.1 hi with e | e
    · exact h.sub i e
    · exact .inl (hX i e)⟩
  exact h2.trans k

theorem dput_any (pb : Nat) (d : Dm) (fv : Value) (vs : List Value) (S : List Nat) (f : Fl) (bo : Option Addr) (bc : Nat) (w : World) (h : Dk w pb d fv vs S) (hn : d.files.length ≤ 1000000) (hd : w.ownsRow 0 5 1 (.slice bo f.data.length bc) f.data.length (f.data.map (Value.int .u8))) (hnew : ∀ k ∈ own (.slice bo f.data.length bc), k ∉ S) (hok : Dm.Ok { d with files := put d.files f }) :
    Calls Tryd.prog 55 #[.pointer (some ⟨pb, 0, none⟩), .agg #[.string f.name, .slice bo f.data.length bc, .int .i64 f.synced]] w fun e w' => e = .returned (.tuple #[]) ∧ ∃ fv' vs' S', Dk w' pb { d with files := put d.files f } fv' vs' S' ∧ Step (S ++ own (.slice bo f.data.length bc)) S' w w' := by
  cases hg : get d.files f.name with
  | none => exact put_none pb d fv vs S f bo bc w h hn hd hnew hok hg
  | some g => exact put_some pb d fv vs S f g bo bc w h hn hd hnew hok hg

theorem put_new (pb : Nat) (d : Dm) (fv : Value) (vs : List Value) (S : List Nat) (nm : ByteArray) (w : World) (h : Dk w pb d fv vs S) (hn : d.files.length ≤ 1000000) (hok : Dm.Ok { d with files := put d.files ⟨nm, [], 0⟩ }) :
    Calls Tryd.prog 55 #[.pointer (some ⟨pb, 0, none⟩), .agg #[.string nm, .slice none 0 0, .int .i64 0]] w fun e w' => e = .returned (.tuple #[]) ∧ ∃ fv' vs' S', Dk w' pb { d with files := put d.files ⟨nm, [], 0⟩ } fv' vs' S' ∧ Step S S' w w' := by
  have := dput_any pb d fv vs S ⟨nm, [], 0⟩ none 0 w h hn ⟨rfl, .inl ⟨rfl, rfl⟩⟩ (by simp [own, Value.ownBlock]) hok
  rw [show own (.slice none ([] : List Int).length 0) = [] from rfl, List.append_nil] at this
  exact this

theorem spend_with {d : Dm} (l : List Fl) : ({ d.spend with files := l } : Dm).files = l := rfl

set_option maxHeartbeats 1000000 in
theorem create_any (pb : Nat) (d : Dm) (fv : Value) (vs : List Value) (S : List Nat) (nm : ByteArray) (w : World) (h : Dk w pb d fv vs S) (hn : d.files.length ≤ 1000000) (hs : nm.size ≤ 9223372036854775807) :
    Calls Tryd.prog 35 #[.pointer (some ⟨pb, 0, none⟩), .string nm] w fun e w' => e = .returned (.int .i64 (d.create nm).2) ∧ ∃ fv' vs' S', Dk w' pb (d.create nm).1 fv' vs' S' ∧ Step S S' w w' := by
  have hmay := mayName_any nm w hs
  have hsp := spend_any pb d fv vs S w h
  cases hok : okName nm with
  | false =>
    have e : Hid (d.create nm = (d, 1)) := by show _ = _; simp [Dm.create, hok]
    rw [hok] at hmay
    go_enter Tryd.func35, Tryd.ntmps35
    go_wp2_with (go_at_call 53; with_reducible refine hmay.mono ?_; rintro e w1 ⟨rfl, rfl⟩)
    go_ret
    rw [e.out]
    exact ⟨rfl, fv, vs, S, h, .refl _ _⟩
  | true =>
    rw [hok] at hmay
    have h32 : 1 ≤ nm.size ∧ nm.size ≤ 32 := by simpa [okName] using hok
    cases hdn : d.spend.down with
    | true =>
      have e : Hid (d.create nm = (d.spend, 13)) := by show _ = _; simp [Dm.create, hok, hdn]
      rw [hdn] at hsp
      go_enter Tryd.func35, Tryd.ntmps35
      go_wp2_with (first
        | (go_at_call 53; with_reducible refine hmay.mono ?_; rintro e w1 ⟨rfl, rfl⟩)
        | (go_at_call 54; with_reducible refine hsp.mono ?_; rintro e w2 ⟨rfl, D2, st2⟩))
      go_ret
      rw [e.out]
      exact ⟨rfl, fv, vs, S, D2, st2⟩
    | false =>
      have e : Hid (d.create nm = ({ d.spend with files := put d.files ⟨nm, [], 0⟩ }, 0)) := by show _ = _; simp [Dm.create, hok, hdn]
      rw [hdn] at hsp
      have hokd : Dm.Ok { d.spend with files := put d.spend.files ⟨nm, [], 0⟩ } := h.ok.spend.put _ (by rw [d.spend_files, d.spend_limit]; have := used_parts h.ok.rise nm; have := h.ok.room; simp; omega) (by simp) (by simp) h32
      have hput := fun w2 (D2 : Dk w2 pb d.spend fv vs S) w3 (hb : Below w2.heap.size w2 w3) => put_new pb d.spend fv vs S nm w3 (D2.later hb) (by rw [d.spend_files]; exact hn) hokd
      rw [d.spend_files] at hput
      go_enter Tryd.func35, Tryd.ntmps35
      go_wp2_with (first
        | (go_at_call 53; with_reducible refine hmay.mono ?_; rintro e w1 ⟨rfl, rfl⟩)
        | (go_at_call 54; with_reducible refine hsp.mono ?_; rintro e w2 ⟨rfl, D2, st2⟩)
        | (go_at_call 56; with_reducible refine (sclone_any nm w2 (by omega)).mono ?_; rintro e w3 ⟨rfl, hb3⟩)
        | (go_at_call 55; with_reducible refine (hput w2 D2 w3 hb3).mono ?_; rintro e w4 ⟨rfl, fv4, vs4, S4, D4, st4⟩))
      go_ret
      rw [e.out]
      exact ⟨rfl, fv4, vs4, S4, D4, (st2.trans (.of_below hb3)).trans st4⟩
end

section
open Go.RowKit Go.Sort
end

end Go.Proofs.YtgleblfkcdkaeaaDoor
