/- The disk's Rename, walked: slices.Delete, the file that goes, the file that comes. -/
import Derived.Test.YtgleblfkcdkaeaaDoorDLaw
namespace Go.Proofs.YtgleblfkcdkaeaaDoor
set_option maxRecDepth 100000
open Go.RowKit Go.Sort
variable {B : Nat} {w : World} {pb : Nat} {d : Dm}

set_option maxHeartbeats 2000000 in
theorem delete_any (fb n cap i : Nat) (xs : List Value) (w : World) (hown : w.ownsRow 0 76 3 (.slice (some ⟨fb, 0, none⟩) n cap) n xs) (hi : i < n) (h1 : ∀ v ∈ xs, v.oneCell' = true) (hn : n ≤ 1000000) :
    Calls Tryd.prog 59 #[.slice (some ⟨fb, 0, none⟩) n cap, .int .i64 i, .int .i64 ((i : Int) + 1)] w fun e w' => e = .returned (.slice (some ⟨fb, 0, none⟩) (n - 1) cap) ∧ w'.ownsRow 0 76 3 (.slice (some ⟨fb, 0, none⟩) (n - 1) cap) (n - 1) (xs.take (i * 3) ++ xs.drop ((i + 1) * 3)) ∧ Off [fb] w w' := by
  have hxl := hown.1
  obtain ⟨L, hB, hL, hT, hc, hm⟩ := Blk.of_own hown
  unfold maxLen at hm
  obtain ⟨i0, hi0, hz0, hz1, hz2⟩ := info_parts Tryd.info76
  obtain ⟨news, hnews⟩ : ∃ news, Hid (news = xs.drop ((i + 1) * 3)) := ⟨_, rfl⟩
  have hnl : news.length = (n - (i + 1)) * 3 := by rw [hnews.out]; simp; omega
  obtain ⟨A, hA, hsrc⟩ : ∃ A : Addr, (if cap = i + 1 then some (⟨fb, 0, none⟩ : Addr) else some ⟨fb, (i + 1) * 3, none⟩) = some A ∧ Hid (∀ t u, news[t]? = some u → w.drew.cell? (A.add t) = some u) := by
    by_cases h : cap = i + 1
    · refine ⟨⟨fb, 0, none⟩, by simp [h], fun t u hu => ?_⟩
      have h0 : news.length = 0 := by rw [hnl]; omega
      rw [List.length_eq_zero_iff.1 h0] at hu
      simp at hu
    · refine ⟨⟨fb, (i + 1) * 3, none⟩, by simp [h], fun t u hu => ?_⟩
      rw [Addr.add_lit]
      refine hB.drew.cell _ u ?_
      have : (L.take (n * 3))[(i + 1) * 3 + t]? = some u := by rw [hT, ← List.getElem?_drop, ← hnews.out]; exact hu
      rw [List.getElem?_take] at this
      split at this
      · exact this
      · cases this
  have s1 : Hid (news.length = (n - (i + 1)) * 3) := hnl
  have s2 : Hid (∀ u ∈ news, u.oneCell' = true) := fun u hu => h1 u (List.mem_of_mem_drop (hnews.out ▸ hu))
  have s3 : Hid (∀ t, t < news.length → (w.drew.cell? ⟨fb, 0 + i * 3 + t, none⟩).isSome = true ∧ w.drew.frozen? ⟨fb, 0 + i * 3 + t, none⟩ = false) := fun t ht => ⟨hB.drew.there _ (by omega), hB.drew.free _⟩
  obtain ⟨W1, hW1⟩ : ∃ W1, Hid (W1 = w.drew.setCells fb (0 + i * 3) news) := ⟨_, rfl⟩
  have hB1 : Blk W1 fb (splice L (0 + i * 3) news) := by rw [hW1.out]; exact hB.drew.setCells _ _ (by omega)
  have hL1 : (splice L (0 + i * 3) news).length = cap * 3 := by rw [length_splice _ _ _ (by omega)]; exact hL
  have hcl := fun ty c => run_clear3 W1 ty fb ((n - 1) * 3) c (fun j hj => hB1.there _ (by omega)) (fun j hj => hB1.free _)
  have e1 : i + (n - (i + 1)) = n - 1 := by omega
  have e2 : n - (n - 1) = 1 := by omega
  have e3 : ¬ cap = n - 1 := by omega
  have b1 : (i : Int) ≤ (i : Int) + 1 := by omega
  have b2 : (i : Int) + 1 ≤ (n : Int) := by omega
  have b3 : ((i : Int) + 1).toNat = i + 1 := by omega
  have b4 : ¬ ((i : Int) = (i : Int) + 1) := by omega
  clear hown hxl
  have hTH : Hid (L.take (n * 3) = xs) := hT
  clear hT
  go_enter Tryd.func59, Tryd.ntmps59
  go_wp2
  have hic : i ≤ cap := by omega
  have hin : i + 1 ≤ n := by omega
  have hb5 : (0 : Int) ≤ (i : Int) + 1 := by omega
  have hroom : i + (n - (i + 1)) ≤ cap := by omega
  go_region_law (refine step_append_room rfl (.tmp 22) (.tmp 25) 71 rfl 76 i0 3 Tryd.underlying71 hi0 hz1 fb 0 i cap rfl A (n - (i + 1)) (cap - (i + 1)) news rfl s1.out hsrc.out s2.out hroom s3.out ?_; rw [← hW1.out])
  have hb6 : ((n - 1 : Nat) : Int) ≤ (n : Int) := by omega
  have hb7 : n - 1 ≤ n := by omega
  have hb8 : n ≤ cap := hc
  go_wp2
  go_ret
  have hfin : Blk (W1.setCells fb ((n - 1) * 3) fz) fb (splice (splice L (0 + i * 3) news) ((n - 1) * 3) fz) := hB1.setCells _ _ (by rw [hL1]; simp only [fz, List.length_cons, List.length_nil]; omega)
  have hown' := hfin.own (n := n - 1) (by rw [length_splice _ _ _ (by rw [hL1]; simp only [fz, List.length_cons, List.length_nil]; omega)]; exact hL1) (by omega) (by unfold maxLen; omega)
  refine ⟨rfl, ?_, ?_⟩
  · have hx : (splice (splice L (0 + i * 3) news) ((n - 1) * 3) fz).take ((n - 1) * 3) = xs.take (i * 3) ++ xs.drop ((i + 1) * 3) := by
      rw [splice, List.take_append_of_le_length (by rw [List.length_take, hL1]; omega), List.take_take, Nat.min_self, splice, ← List.append_assoc, List.take_append_of_le_length (by simp; omega), Nat.zero_add, ← hnews.out, List.take_of_length_le (by simp; omega), ← hTH.out, List.take_take, Nat.min_eq_left (by omega)]
    rw [← hx]; exact hown'
  · refine off_setCells (by simp) _ _ ?_
    rw [hW1.out]
    exact off_setCells (by simp) _ _ (Off.refl _ _).drew
/-- The file of a name is taken out of the row, and the row's place is written. -/
theorem deleted (pb : Nat) (d : Dm) (fb N cap : Nat) (vs : List Value) (S : List Nat) (nm : ByteArray) (f : Fl) (w : World) (h : Dk w pb d (.slice (some ⟨fb, 0, none⟩) N cap) vs S) (hn : N ≤ 1000000) (hg : get d.files nm = some f) (i : Nat) (hi : i = (lo d.files nm).length) (v : Value) (hv : vs[i]? = some v) :
    Calls Tryd.prog 59 #[.slice (some ⟨fb, 0, none⟩) N cap, .int .i64 i, .int .i64 ((i : Int) + 1)] w fun e w3 => e = .returned (.slice (some ⟨fb, 0, none⟩) (N - 1) cap) ∧ w3.cell? ⟨pb, 1, none⟩ = some (.slice (some ⟨fb, 0, none⟩) N cap) ∧ w3.frozen? ⟨pb, 1, none⟩ = false ∧ Off S w w3 ∧
      ∃ vs' S', Dk (w3.setCell ⟨pb, 1, none⟩ (.slice (some ⟨fb, 0, none⟩) (N - 1) cap)) pb { d with files := del d.files nm } (.slice (some ⟨fb, 0, none⟩) (N - 1) cap) vs' S' ∧ Step S S' w (w3.setCell ⟨pb, 1, none⟩ (.slice (some ⟨fb, 0, none⟩) (N - 1) cap)) ∧ (∀ k ∈ own v, k ∈ S ∧ k ∉ S') ∧ (w3.setCell ⟨pb, 1, none⟩ (.slice (some ⟨fb, 0, none⟩) (N - 1) cap)).ownsRow 0 5 1 v f.data.length (f.data.map (Value.int .u8)) := by
  have hf := at_lo h.ok.rise hg
  rw [← hi] at hf
  have hil := (List.getElem?_eq_some_iff.1 hf).1
  have hfn : N = d.files.length := by
    rcases h.rows.2 with ⟨h', _⟩ | ⟨_, _, _, h', _⟩
    · cases h'
    · simp at h'; exact h'.2.1
  subst hfn
  have hpbf : pb ∉ own (.slice (some ⟨fb, 0, none⟩) d.files.length cap) := by
    have hn := h.once
    rw [h.whole, List.nodup_cons] at hn
    exact fun e => hn.1 (List.mem_append_left _ e)
  refine (delete_any fb d.files.length cap i (fcells d.files vs) w h.rows hil (fcells_one _ _ h.datas) hn).mono ?_
  rintro e w3 ⟨rfl, hr, ho⟩
  have ho' : Off (own (.slice (some ⟨fb, 0, none⟩) d.files.length cap)) w w3 := ho
  have he : ({ d with files := d.files.take i ++ d.files.drop (i + 1) } : Dm) = { d with files := del d.files nm } := by rw [hi, era_del h.ok.rise hg]
  obtain ⟨S', D', st, hvS, hown⟩ := h.gone i hf hv (by rw [he]; exact h.ok.del nm) ho' (fun k hk => by rwa [own_len _ _ (d.files.length - 1) _ cap]) hr
  rw [he] at D'
  refine ⟨rfl, ho'.cell h.c1 hpbf, ?_, ho'.mono (fun k hk => by rw [h.whole]; simp [hk]), _, S', D', st, hvS, hown⟩
  rw [World.frozen?_of_block (w := w) (ho'.block pb (h.lt pb h.mem) hpbf)]
  exact h.z 1
set_option maxHeartbeats 2000000 in
theorem rename_any (pb : Nat) (d : Dm) (fv : Value) (vs : List Value) (S : List Nat) (nm to : ByteArray) (w : World) (h : Dk w pb d fv vs S) (hn : d.files.length ≤ 1000000) (hs : to.size ≤ 9223372036854775807) :
    Calls Tryd.prog 38 #[.pointer (some ⟨pb, 0, none⟩), .string nm, .string to] w fun e w' => e = .returned (.int .i64 (d.rename nm to).2) ∧ ∃ fv' vs' S', Dk w' pb (d.rename nm to).1 fv' vs' S' ∧ Step S S' w w' := by
  have hfind := find_any pb d fv vs S nm w h hn
  cases hg : get d.files nm with
  | none =>
    rw [hg] at hfind
    have e : Hid (d.rename nm to = (d, 22)) := by show _ = _; simp [Dm.rename, hg]
    go_enter Tryd.func38, Tryd.ntmps38
    go_wp2_with (go_at_call 57; with_reducible refine hfind.mono ?_; rintro e w1 ⟨rfl, hb1⟩)
    go_ret
    rw [e.out]
    exact ⟨rfl, fv, vs, S, h.later hb1, .of_below hb1⟩
  | some f =>
    rw [hg] at hfind
    have hmay := fun w1 => mayName_any to w1 hs
    have hsp := fun w1 (hb1 : Below w.heap.size w w1) => spend_any pb d fv vs S w1 (h.later hb1)
    cases hok : okName to with
    | false =>
      have e : Hid (d.rename nm to = (d, 1)) := by show _ = _; simp [Dm.rename, hg, hok]
      rw [hok] at hmay
      go_enter Tryd.func38, Tryd.ntmps38
      go_wp2_with (first
        | (go_at_call 57; with_reducible refine hfind.mono ?_; rintro e w1 ⟨rfl, hb1⟩)
        | (go_at_call 53; with_reducible refine (hmay w1).mono ?_; rintro e w2 ⟨rfl, rfl⟩))
      go_ret
      rw [e.out]
      exact ⟨rfl, fv, vs, S, h.later hb1, .of_below hb1⟩
    | true =>
      rw [hok] at hmay
      have h32 : 1 ≤ to.size ∧ to.size ≤ 32 := by simpa [okName] using hok
      cases hdn : d.spend.down with
      | true =>
        have e : Hid (d.rename nm to = (d.spend, 13)) := by show _ = _; simp [Dm.rename, hg, hok, hdn]
        rw [hdn] at hsp
        go_enter Tryd.func38, Tryd.ntmps38
        go_wp2_with (first
          | (go_at_call 57; with_reducible refine hfind.mono ?_; rintro e w1 ⟨rfl, hb1⟩; have hsp1 := hsp w1 hb1; clear hsp)
          | (go_at_call 53; with_reducible refine (hmay w1).mono ?_; rintro e w2 ⟨rfl, rfl⟩)
          | (go_at_call 54; with_reducible refine hsp1.mono ?_; rintro e w2 ⟨rfl, D2, st2⟩))
        go_ret
        rw [e.out]
        exact ⟨rfl, fv, vs, S, D2, (Step.of_below hb1).trans st2⟩
      | false =>
        have e : Hid (d.rename nm to = ({ d.spend with files := put (del d.files nm) ⟨to, f.data, f.synced⟩ }, 0)) := by show _ = _; simp [Dm.rename, hg, hok, hdn]
        rw [hdn] at hsp
        obtain ⟨fb, cap, i, bo, bc, rfl, hi, hil, hc, hm, hf, hv, _⟩ := h.file hg
        have hgs : get d.spend.files nm = some f := by rw [d.spend_files]; exact hg
        have hfs : d.spend.files[i]? = some f := by rw [d.spend_files]; exact hf
        rw [← hi] at hfind
        have hdel := fun w2 D2 => deleted pb d.spend fb d.files.length cap vs S nm f w2 D2 hn hgs i (by rw [d.spend_files]; exact hi) _ hv
        rw [d.spend_files] at hdel
        have hat : ∀ w2, Dk w2 pb d.spend (.slice (some ⟨fb, 0, none⟩) d.files.length cap) vs S → w2.cell? ⟨pb, 1, none⟩ = some (.slice (some ⟨fb, 0, none⟩) d.files.length cap) ∧ w2.cell? ⟨fb, i * 3, none⟩ = some (.string f.name) ∧ w2.cell? ⟨fb, i * 3 + 1, none⟩ = some (.slice bo f.data.length bc) ∧ w2.cell? ⟨fb, i * 3 + 2, none⟩ = some (.int .i64 f.synced) ∧ pb < w2.heap.size := fun w2 D2 => by
          obtain ⟨a, b, c, _⟩ := D2.fileAt hfs hv
          exact ⟨D2.c1, a, b, c, D2.lt pb D2.mem⟩
        have hokd : Dm.Ok { d.spend with files := put (del d.files nm) ⟨to, f.data, f.synced⟩ } := by
          have h1 := h.ok.spend.del nm
          rw [d.spend_files] at h1
          have hu := used_del_le h.ok.rise hg
          have hu2 := used_parts (rising_del h.ok.rise nm) to
          have hr := h.ok.room
          exact h1.put ⟨to, f.data, f.synced⟩ (by show used (del (del d.files nm) to) + _ ≤ d.spend.limit; rw [d.spend_limit]; simp; omega) (h.ok.sync f (get_mem hg)) (h.ok.rng f (get_mem hg)) h32
        have hputs : ∀ w5 fv5 vs5 S5, Dk w5 pb { d.spend with files := del d.files nm } fv5 vs5 S5 → (∀ k ∈ own (.slice bo f.data.length bc), k ∉ S5) → w5.ownsRow 0 5 1 (.slice bo f.data.length bc) f.data.length (f.data.map (Value.int .u8)) → Calls Tryd.prog 55 #[.pointer (some ⟨pb, 0, none⟩), .agg #[.string to, .slice bo f.data.length bc, .int .i64 f.synced]] w5 fun e w' => e = .returned (.tuple #[]) ∧ ∃ fv' vs' S', Dk w' pb { d.spend with files := put (del d.files nm) ⟨to, f.data, f.synced⟩ } fv' vs' S' ∧ Step (S5 ++ own (.slice bo f.data.length bc)) S' w5 w' := fun w5 fv5 vs5 S5 D5 hnew hd =>
          dput_any pb { d.spend with files := del d.files nm } fv5 vs5 S5 ⟨to, f.data, f.synced⟩ bo bc w5 D5 (Nat.le_trans (length_del h.ok.rise nm) hn) hd hnew hokd
        clear hi hgs hf hfs hv hokd
        generalize f.data.length = dl at *
        generalize hNN : d.files.length = N at *
        clear hNN
        have hil' : (i : Int) < (N : Int) := by omega
        go_enter Tryd.func38, Tryd.ntmps38
        go_wp2_with (first
          | (go_at_call 57; with_reducible refine hfind.mono ?_; rintro e w1 ⟨rfl, hb1⟩; have hsp1 := hsp w1 hb1; clear hsp)
          | (go_at_call 53; with_reducible refine (hmay w1).mono ?_; rintro e w2 ⟨rfl, rfl⟩)
          | (go_at_call 54; with_reducible refine hsp1.mono ?_; rintro e w2 ⟨rfl, D2, st2⟩; obtain ⟨f1, f2, f3, f4, hpb⟩ := hat w2 D2; have f1o := fun o => cell_on o f1)
          | fail)
        have hbx : w2.heap.size ∉ S := fun e => by have := D2.lt _ e; omega
        have x0 : (w2.alloc (.cells #[.string f.name, .slice bo dl bc, .int .i64 f.synced] 76)).cell? ⟨w2.heap.size, 0, none⟩ = some (.string f.name) := by simp [go_sem]
        have x1 : (w2.alloc (.cells #[.string f.name, .slice bo dl bc, .int .i64 f.synced] 76)).cell? ⟨w2.heap.size, 1, none⟩ = some (.slice bo dl bc) := by simp [go_sem]
        have x2 : (w2.alloc (.cells #[.string f.name, .slice bo dl bc, .int .i64 f.synced] 76)).cell? ⟨w2.heap.size, 2, none⟩ = some (.int .i64 f.synced) := by simp [go_sem]
        have xz : (w2.alloc (.cells #[.string f.name, .slice bo dl bc, .int .i64 f.synced] 76)).frozen? ⟨w2.heap.size, 0, none⟩ = false := by simp [go_sem]
        have xs : w2.heap.size < (w2.alloc (.cells #[.string f.name, .slice bo dl bc, .int .i64 f.synced] 76)).heap.size := by simp
        have hbW : Below w2.heap.size w2 (w2.alloc (.cells #[.string f.name, .slice bo dl bc, .int .i64 f.synced] 76)) := (Below.refl _ _).alloc (Nat.le_refl _) _
        have hdW := hdel _ (D2.later hbW)
        clear hdel hat
        generalize hBX : w2.heap.size = bx at *
        have hne : bx ≠ pb := by omega
        generalize hWW : w2.alloc (.cells #[.string f.name, .slice bo dl bc, .int .i64 f.synced] 76) = W at *
        clear hWW f1o
        with_reducible refine hdW.mono ?_
        rintro e w3 ⟨rfl, g1, g2, hoff, vs', S', D4, st4, hvS, hown4⟩
        have y0 := hoff.cell x0 hbx
        have y1 := hoff.cell x1 hbx
        have y2 := hoff.cell x2 hbx
        have yz := (World.frozen?_of_block (w := W) (a := ⟨bx, 0, none⟩) (hoff.block bx xs hbx)).trans xz
        have fin : ∀ w5, Below (w3.setCell ⟨pb, 1, none⟩ (.slice (some ⟨fb, 0, none⟩) (N - 1) cap)).heap.size (w3.setCell ⟨pb, 1, none⟩ (.slice (some ⟨fb, 0, none⟩) (N - 1) cap)) w5 → w5.cell? ⟨bx, 0, none⟩ = some (.string f.name) ∧ w5.cell? ⟨bx, 1, none⟩ = some (.slice bo dl bc) ∧ w5.cell? ⟨bx, 2, none⟩ = some (.int .i64 f.synced) ∧ w5.frozen? ⟨bx, 0, none⟩ = false ∧ Step S S' w (w5.setCell ⟨bx, 0, none⟩ (.string to)) ∧
            Calls Tryd.prog 55 #[.pointer (some ⟨pb, 0, none⟩), .agg #[.string to, .slice bo dl bc, .int .i64 f.synced]] (w5.setCell ⟨bx, 0, none⟩ (.string to)) fun e w' => e = .returned (.tuple #[]) ∧ ∃ fv' vs' S'', Dk w' pb { d.spend with files := put (del d.files nm) ⟨to, f.data, f.synced⟩ } fv' vs' S'' ∧ Step (S' ++ own (.slice bo dl bc)) S'' (w5.setCell ⟨bx, 0, none⟩ (.string to)) w' := by
          intro w5 hb5
          have hob : Off [pb] w3 (w3.setCell ⟨pb, 1, none⟩ (.slice (some ⟨fb, 0, none⟩) (N - 1) cap)) := (Off.refl _ _).setCell (p := ⟨pb, 1, none⟩) (by simp) _
          have hbS' : bx ∉ S' := fun e => (st4.sub bx e).elim hbx (fun e => by omega)
          have ho5 : Off [bx] w5 (w5.setCell ⟨bx, 0, none⟩ (.string to)) := (Off.refl _ _).setCell (p := ⟨bx, 0, none⟩) (by simp) _
          have hbx3 : bx < w3.heap.size := World.block_lt_of_cell? _ _ y0
          refine ⟨cell_later hb5 (hob.cell y0 (by simpa using hne)), cell_later hb5 (hob.cell y1 (by simpa using hne)), cell_later hb5 (hob.cell y2 (by simpa using hne)), ?_, ?_, ?_⟩
          · rw [hb5.frozen (p := ⟨bx, 0, none⟩) (Nat.lt_of_lt_of_le hbx3 hob.size), World.frozen?_of_block (w := w3) (a := ⟨bx, 0, none⟩) (hob.block bx hbx3 (by simpa using hne))]
            exact yz
          · have s1 : Step S S' w w5 := (((Step.of_below hb1).trans st2).trans (Step.of_below (hBX ▸ hbW))).trans (st4.trans (.of_below hb5))
            refine ⟨⟨s1.off.os, s1.off.tape, s1.off.output, Nat.le_trans s1.off.size ho5.size, fun k hk hkS => ?_⟩, s1.sub⟩
            have hw2 : w.heap.size ≤ bx := by rw [← hBX]; exact Nat.le_trans hb1.size st2.off.size
            rw [ho5.block k (Nat.lt_of_lt_of_le hk s1.off.size) (by simp; omega)]
            exact s1.off.block k hk hkS
          · refine hputs _ _ vs' S' ((D4.later hb5).keep ho5 (fun k hk e => by simp at e; subst e; exact hbS' hk)) (fun k hk => (hvS k hk).2) ?_
            exact rows_off (rows_off hown4 (.of_below (S := []) hb5) (by simp)) ho5 (fun k hk e => by simp at e; subst e; exact hbx (hvS k hk).1)
        have hvS' : ∀ k ∈ own (.slice bo dl bc), k ∈ S := fun k hk => (hvS k hk).1
        clear hputs hvS hown4 st4 D4 hoff x0 x1 x2 xz xs hdW
        go_wp2_with (first
          | (go_at_call 56; with_reducible refine (sclone_any to _ (by omega)).mono ?_; rintro e w5 ⟨rfl, hb5⟩; obtain ⟨v0, v1, v2, vz, st5, hput⟩ := fin w5 hb5)
          | (go_at_call 55; with_reducible refine hput.mono ?_; rintro e w6 ⟨rfl, fv6, vs6, S6, D6, st6⟩))
        go_ret
        rw [e.out]
        exact ⟨rfl, fv6, vs6, S6, D6, st5.trans2 hvS' st6⟩
theorem rename_l (h : Dl B w pb d) (nm to : ByteArray) (D : Dm) (r : Int) (hE : d.rename nm to = (D, r)) (hn : d.files.length ≤ 1000000) (hs : to.size ≤ 9223372036854775807) :
    Calls Tryd.prog 38 #[.pointer (some ⟨pb, 0, none⟩), .string nm, .string to] w fun e w' => e = .returned (.int .i64 r) ∧ Dl B w' pb D ∧ Below B w w' := by
  obtain ⟨fv, vs, S, K, hS, hB⟩ := h
  refine (rename_any pb d fv vs S nm to w K hn hs).mono ?_
  rintro e w' ⟨rfl, fv', vs', S', K', st⟩
  rw [hE] at K' ⊢
  exact ⟨rfl, Dl.out hS hB K' st⟩
end Go.Proofs.YtgleblfkcdkaeaaDoor
