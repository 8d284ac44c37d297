/- table.Range once more: what it answers is the call's own row, its texts in none of the blocks X. -/
import Derived.Test.YteeemfohehpaeaaTRange
import Derived.Test.YteeemfohehpaeaaTDelX
namespace Go.Proofs.Yteeemfohehpaeaa
set_option maxRecDepth 100000
open Go.RowKit Go.Sort

set_option maxHeartbeats 8000000 in
theorem rangeX_any (X : List Nat) (pb : Nat) (m : List Ent) (fo : Option Addr) (fl fc : Nat) (fs : List Int) (to : Option Addr) (tl tc : Nat) (ts : List Int) (w : World) (h : Tb w pb m) (hf : Tx w fo fl fc fs) (hto : Tx w to tl tc ts) (sf : fl ≤ 900000000) (st : tl ≤ 900000000) (hm : 1 ≤ m.length) (hX : ∀ q ∈ X, q < w.heap.size) :
    Calls Try.prog 25 #[.pointer (some ⟨pb, 0, none⟩), .slice fo fl fc, .slice to tl tc] w fun e w' => ∃ bo lb cb, e = .returned (.slice bo lb cb) ∧ Ls 25 3 (REx X) w' w.heap.size (.slice bo lb cb) (m.filter (fun e => !delK fs ts e.k)) ∧ Below w.heap.size w w' := by
  obtain ⟨ps, ls, ro, rl, rc, ht, hpk⟩ := h
  have hrl := ht.row.len_eq
  have hpl9 : rl ≤ 1000000 := by have := hpk.cnt; have := hpk.le; omega
  have htl := hto.len_eq
  have hrl1 : 0 < rl := by have := hpk.cnt; omega
  obtain ⟨rb, rf, rfl, _⟩ := ht.row.headP hrl1
  have hrc := ht.row.le
  go_enter Try.func25, Try.ntmps25
  go_wp2_with fail
  have bA : Below w.heap.size w ((w.alloc (.cells #[.slice fo fl fc] 23)).alloc (.cells #[.slice to tl tc] 23)) := ((Below.refl _ _).alloc (Nat.le_refl _) _).alloc (by simp) _
  have x0 : ((w.alloc (.cells #[.slice fo fl fc] 23)).alloc (.cells #[.slice to tl tc] 23)).cell? ⟨w.heap.size, 0, none⟩ = some (.slice fo fl fc) := by
    refine cell_later ((Below.refl _ _).alloc (Nat.le_refl _) _) ?_
    rw [cell_of_row _ w.heap.size _ _ 23 (0, 0) (heap_alloc_new w _)]; rfl
  have x1 : ((w.alloc (.cells #[.slice fo fl fc] 23)).alloc (.cells #[.slice to tl tc] 23)).cell? ⟨w.heap.size + 1, 0, none⟩ = some (.slice to tl tc) := by
    have := heap_alloc_new (w.alloc (.cells #[.slice fo fl fc] 23)) (.cells #[.slice to tl tc] 23)
    have hs : (w.alloc (.cells #[.slice fo fl fc] 23)).heap.size = w.heap.size + 1 := by simp
    rw [hs] at this
    rw [cell_of_row _ (w.heap.size + 1) _ _ 23 (0, 0) this]; rfl
  generalize (w.alloc (.cells #[.slice fo fl fc] 23)).alloc (.cells #[.slice to tl tc] 23) = W1 at bA x0 x1 ⊢
  have t1 := ht.later bA
  have f1 := hf.later bA
  have o1 := hto.later bA
  have hpl := fun d os => place_at pb m ps ls (some ⟨rb, rf, none⟩) rl rc fo fl fc fs _ (t1.later (below_regrown W1 d os)) hpk (f1.later (below_regrown W1 d os)) sf
  have x0r := fun d os => cell_regrown x0 d os
  have c0r := fun d os => cell_regrown t1.c0 d os
  refine wp_region_quiet_below (by kernel_rfl) (by kernel_rfl) ?_
  repeat (go_big_quiet_step ((go_at_call 45; with_reducible exact Calls.regrown_of (hpl _ _))))
  (with_reducible refine wpQuiet_nil ?_)
  intro _ hw'
  obtain ⟨⟨dq, osq⟩, hw''⟩ := hw'
  subst hw''
  have bq := below_regrown W1 dq osq
  have y0 := cell_regrown x0 dq osq
  have y1 := cell_regrown x1 dq osq
  have t2 := t1.later bq
  have f2 := f1.later bq
  have o2 := o1.later bq
  clear hpl x0r c0r
  generalize grow (redrawn W1 dq) osq = W2 at bq y0 y1 t2 f2 o2 ⊢
  have bw2 : Below w.heap.size w W2 := bA.trans (bq.mono bA.size)
  have hb := placeN_ok ps fs
  have hbl := hb.le
  generalize placeN ps fs = b at hb hbl ⊢
  --TAIL
  by_cases h0 : tl = 0
  · have h0I : ¬ (0 : Int) < tl := by omega
    have bwx := bw2
    by_cases hmx : (b : Int) < rl
    · have ev1 : (rl : Int) ≤ rc := by omega
      have hc0 := t2.c0
      have hga := tgatherX_any X (some ⟨rb, rf + b * 2, none⟩) (rl - b) (rc - b) ((ps.take (rl)).drop b) W2 (by simpa using (Lx.drop2 (t2.row.take (rl) (by omega)) b (by omega))) (by omega) (fun p hp => hpk.sz p (List.mem_of_mem_take (List.mem_of_mem_drop hp))) (fun q hq => Nat.lt_of_lt_of_le (hX q hq) bw2.size)
      have hen : Ends W2 w.heap.size (w.heap.size + 1) fs ts := ⟨⟨fo, fl, fc, y0, f2, by omega⟩, ⟨to, tl, tc, y1, o2, by omega⟩⟩
      have hfil : Hid ((gatL ((ps.take (rl)).drop b)).filter (fun e => !delK fs ts e.k) = m.filter (fun e => !delK fs ts e.k)) := hpk.range hb (by omega) (.inl hrl.symm)
      have hsub := hpk.gat_sub b (rl)
      have bwW : Below w.heap.size w W2 := bw2
      generalize gatL ((ps.take (rl)).drop b) = gs at hga hfil hsub
      go_wp2_with fail
      all_goals
        with_reducible refine hga.mono ?_
        clear hga
        rintro e W4 ⟨go, gl, gc, rfl, lsG, hgl, b4⟩
        have hdel := delfX_any X W2.heap.size go gl gc gs W4 W2 w.heap.size (w.heap.size + 1) fs ts lsG hgl hen (Nat.le_refl _) b4 b4.size hsub.1 (by rw [hgl]; exact hsub.2)
        clear hgl
        go_wp2_with fail
        with_reducible refine hdel.mono ?_
        clear hdel
        rintro e W5 ⟨bo, lb, cb, rfl, hx, b5⟩
        rw [hfil.out] at hx
        go_wp2
        go_ret
        exact ⟨bo, lb, cb, rfl, hx.less (fun _ h => h) bwW.size, (bwW.trans (b4.mono bwW.size)).trans (b5.mono bwW.size)⟩
    · have hbr : b = rl := by omega
      subst hbr
      have hc0 := t2.c0
      have hnil : (ps.take b).drop b = [] := by rw [List.drop_eq_nil_iff]; simp; omega
      have hrt := t2.row.top
      have hga := fun (off l c : Nat) (hl : l = 0) (hc : c ≤ rc) => tgatherX_any X (some ⟨rb, off, none⟩) l c ((ps.take b).drop b) W2 (by rw [hnil]; exact ⟨by simp; omega, by omega, by omega, fun ha => (by cases ha), fun ad ha j e he => (by simp at he)⟩) (by omega) (fun p hp => by rw [hnil] at hp; cases hp) (fun q hq => Nat.lt_of_lt_of_le (hX q hq) bw2.size)
      clear hnil hrt
      have hen : Ends W2 w.heap.size (w.heap.size + 1) fs ts := ⟨⟨fo, fl, fc, y0, f2, by omega⟩, ⟨to, tl, tc, y1, o2, by omega⟩⟩
      have hfil : Hid ((gatL ((ps.take (b)).drop b)).filter (fun e => !delK fs ts e.k) = m.filter (fun e => !delK fs ts e.k)) := hpk.range hb (by omega) (.inl hrl.symm)
      have hsub := hpk.gat_sub b (b)
      have bwW : Below w.heap.size w W2 := bw2
      generalize gatL ((ps.take (b)).drop b) = gs at hga hfil hsub
      go_wp2_with fail
      all_goals
        with_reducible refine (hga _ _ _ (by omega) (by omega)).mono ?_
        clear hga
        rintro e W4 ⟨go, gl, gc, rfl, lsG, hgl, b4⟩
        have hdel := delfX_any X W2.heap.size go gl gc gs W4 W2 w.heap.size (w.heap.size + 1) fs ts lsG hgl hen (Nat.le_refl _) b4 b4.size hsub.1 (by rw [hgl]; exact hsub.2)
        clear hgl
        go_wp2_with fail
        with_reducible refine hdel.mono ?_
        clear hdel
        rintro e W5 ⟨bo, lb, cb, rfl, hx, b5⟩
        rw [hfil.out] at hx
        go_wp2
        go_ret
        exact ⟨bo, lb, cb, rfl, hx.less (fun _ h => h) bwW.size, (bwW.trans (b4.mono bwW.size)).trans (b5.mono bwW.size)⟩
  · have h0I : (0 : Int) < tl := by omega
    have hpl := place_at pb m ps ls (some ⟨rb, rf, none⟩) rl rc to tl tc ts W2 t2 hpk o2 st
    have hn := placeN_ok ps ts
    have hnl := hn.le
    generalize placeN ps ts = n at hpl hn hnl
    go_wp2_with fail
    with_reducible refine hpl.mono ?_
    clear hpl
    rintro e W3 ⟨rfl, b3⟩
    have z0 := cell_later b3 y0
    have z1 := cell_later b3 y1
    have t3 := t2.later b3
    have f3 := f2.later b3
    have o3 := o2.later b3
    have bw3 := bw2.trans (b3.mono bw2.size)
    clear y0 y1 t2 f2 o2
    have hh0 : 0 < ts.length := by omega
    by_cases hmn : (n : Int) + 1 < rl
    · by_cases hmx : (b : Int) < (n : Int) + 1
      · have ev1 : (n : Int) + 1 ≤ rc := by omega
        have hc0 := t3.c0
        have hga := tgatherX_any X (some ⟨rb, rf + b * 2, none⟩) (n + 1 - b) (rc - b) ((ps.take (n + 1)).drop b) W3 (by simpa using (Lx.drop2 (t3.row.take (n + 1) (by omega)) b (by omega))) (by omega) (fun p hp => hpk.sz p (List.mem_of_mem_take (List.mem_of_mem_drop hp))) (fun q hq => Nat.lt_of_lt_of_le (hX q hq) bw3.size)
        have hen : Ends W3 w.heap.size (w.heap.size + 1) fs ts := ⟨⟨fo, fl, fc, z0, f3, by omega⟩, ⟨to, tl, tc, z1, o3, by omega⟩⟩
        have hfil : Hid ((gatL ((ps.take (n + 1)).drop b)).filter (fun e => !delK fs ts e.k) = m.filter (fun e => !delK fs ts e.k)) := hpk.range hb (by omega) (.inr ⟨hh0, n, hn, by omega⟩)
        have hsub := hpk.gat_sub b (n + 1)
        have bwW : Below w.heap.size w W3 := bw3
        generalize gatL ((ps.take (n + 1)).drop b) = gs at hga hfil hsub
        go_wp2_with fail
        all_goals
          with_reducible refine hga.mono ?_
          clear hga
          rintro e W4 ⟨go, gl, gc, rfl, lsG, hgl, b4⟩
          have hdel := delfX_any X W3.heap.size go gl gc gs W4 W3 w.heap.size (w.heap.size + 1) fs ts lsG hgl hen (Nat.le_refl _) b4 b4.size hsub.1 (by rw [hgl]; exact hsub.2)
          clear hgl
          go_wp2_with fail
          with_reducible refine hdel.mono ?_
          clear hdel
          rintro e W5 ⟨bo, lb, cb, rfl, hx, b5⟩
          rw [hfil.out] at hx
          go_wp2
          go_ret
          exact ⟨bo, lb, cb, rfl, hx.less (fun _ h => h) bwW.size, (bwW.trans (b4.mono bwW.size)).trans (b5.mono bwW.size)⟩
      · have ev1 : (b : Int) ≤ rc := by omega
        have hc0 := t3.c0
        have hnil : (ps.take b).drop b = [] := by rw [List.drop_eq_nil_iff]; simp; omega
        have hrt := t3.row.top
        have hga := fun (off l c : Nat) (hl : l = 0) (hc : c ≤ rc) => tgatherX_any X (some ⟨rb, off, none⟩) l c ((ps.take b).drop b) W3 (by rw [hnil]; exact ⟨by simp; omega, by omega, by omega, fun ha => (by cases ha), fun ad ha j e he => (by simp at he)⟩) (by omega) (fun p hp => by rw [hnil] at hp; cases hp) (fun q hq => Nat.lt_of_lt_of_le (hX q hq) bw3.size)
        clear hnil hrt
        have hen : Ends W3 w.heap.size (w.heap.size + 1) fs ts := ⟨⟨fo, fl, fc, z0, f3, by omega⟩, ⟨to, tl, tc, z1, o3, by omega⟩⟩
        have hfil : Hid ((gatL ((ps.take (b)).drop b)).filter (fun e => !delK fs ts e.k) = m.filter (fun e => !delK fs ts e.k)) := hpk.range hb (by omega) (.inr ⟨hh0, n, hn, by omega⟩)
        have hsub := hpk.gat_sub b (b)
        have bwW : Below w.heap.size w W3 := bw3
        generalize gatL ((ps.take (b)).drop b) = gs at hga hfil hsub
        go_wp2_with fail
        all_goals
          with_reducible refine (hga _ _ _ (by omega) (by omega)).mono ?_
          clear hga
          rintro e W4 ⟨go, gl, gc, rfl, lsG, hgl, b4⟩
          have hdel := delfX_any X W3.heap.size go gl gc gs W4 W3 w.heap.size (w.heap.size + 1) fs ts lsG hgl hen (Nat.le_refl _) b4 b4.size hsub.1 (by rw [hgl]; exact hsub.2)
          clear hgl
          go_wp2_with fail
          with_reducible refine hdel.mono ?_
          clear hdel
          rintro e W5 ⟨bo, lb, cb, rfl, hx, b5⟩
          rw [hfil.out] at hx
          go_wp2
          go_ret
          exact ⟨bo, lb, cb, rfl, hx.less (fun _ h => h) bwW.size, (bwW.trans (b4.mono bwW.size)).trans (b5.mono bwW.size)⟩
    · by_cases hmx : (b : Int) < rl
      · have ev1 : (rl : Int) ≤ rc := by omega
        have hc0 := t3.c0
        have hga := tgatherX_any X (some ⟨rb, rf + b * 2, none⟩) (rl - b) (rc - b) ((ps.take (rl)).drop b) W3 (by simpa using (Lx.drop2 (t3.row.take (rl) (by omega)) b (by omega))) (by omega) (fun p hp => hpk.sz p (List.mem_of_mem_take (List.mem_of_mem_drop hp))) (fun q hq => Nat.lt_of_lt_of_le (hX q hq) bw3.size)
        have hen : Ends W3 w.heap.size (w.heap.size + 1) fs ts := ⟨⟨fo, fl, fc, z0, f3, by omega⟩, ⟨to, tl, tc, z1, o3, by omega⟩⟩
        have hfil : Hid ((gatL ((ps.take (rl)).drop b)).filter (fun e => !delK fs ts e.k) = m.filter (fun e => !delK fs ts e.k)) := hpk.range hb (by omega) (.inl hrl.symm)
        have hsub := hpk.gat_sub b (rl)
        have bwW : Below w.heap.size w W3 := bw3
        generalize gatL ((ps.take (rl)).drop b) = gs at hga hfil hsub
        go_wp2_with fail
        all_goals
          with_reducible refine hga.mono ?_
          clear hga
          rintro e W4 ⟨go, gl, gc, rfl, lsG, hgl, b4⟩
          have hdel := delfX_any X W3.heap.size go gl gc gs W4 W3 w.heap.size (w.heap.size + 1) fs ts lsG hgl hen (Nat.le_refl _) b4 b4.size hsub.1 (by rw [hgl]; exact hsub.2)
          clear hgl
          go_wp2_with fail
          with_reducible refine hdel.mono ?_
          clear hdel
          rintro e W5 ⟨bo, lb, cb, rfl, hx, b5⟩
          rw [hfil.out] at hx
          go_wp2
          go_ret
          exact ⟨bo, lb, cb, rfl, hx.less (fun _ h => h) bwW.size, (bwW.trans (b4.mono bwW.size)).trans (b5.mono bwW.size)⟩
      · have hbr : b = rl := by omega
        subst hbr
        have hc0 := t3.c0
        have hnil : (ps.take b).drop b = [] := by rw [List.drop_eq_nil_iff]; simp; omega
        have hrt := t3.row.top
        have hga := fun (off l c : Nat) (hl : l = 0) (hc : c ≤ rc) => tgatherX_any X (some ⟨rb, off, none⟩) l c ((ps.take b).drop b) W3 (by rw [hnil]; exact ⟨by simp; omega, by omega, by omega, fun ha => (by cases ha), fun ad ha j e he => (by simp at he)⟩) (by omega) (fun p hp => by rw [hnil] at hp; cases hp) (fun q hq => Nat.lt_of_lt_of_le (hX q hq) bw3.size)
        clear hnil hrt
        have hen : Ends W3 w.heap.size (w.heap.size + 1) fs ts := ⟨⟨fo, fl, fc, z0, f3, by omega⟩, ⟨to, tl, tc, z1, o3, by omega⟩⟩
        have hfil : Hid ((gatL ((ps.take (b)).drop b)).filter (fun e => !delK fs ts e.k) = m.filter (fun e => !delK fs ts e.k)) := hpk.range hb (by omega) (.inl hrl.symm)
        have hsub := hpk.gat_sub b (b)
        have bwW : Below w.heap.size w W3 := bw3
        generalize gatL ((ps.take (b)).drop b) = gs at hga hfil hsub
        go_wp2_with fail
        all_goals
          with_reducible refine (hga _ _ _ (by omega) (by omega)).mono ?_
          clear hga
          rintro e W4 ⟨go, gl, gc, rfl, lsG, hgl, b4⟩
          have hdel := delfX_any X W3.heap.size go gl gc gs W4 W3 w.heap.size (w.heap.size + 1) fs ts lsG hgl hen (Nat.le_refl _) b4 b4.size hsub.1 (by rw [hgl]; exact hsub.2)
          clear hgl
          go_wp2_with fail
          with_reducible refine hdel.mono ?_
          clear hdel
          rintro e W5 ⟨bo, lb, cb, rfl, hx, b5⟩
          rw [hfil.out] at hx
          go_wp2
          go_ret
          exact ⟨bo, lb, cb, rfl, hx.less (fun _ h => h) bwW.size, (bwW.trans (b4.mono bwW.size)).trans (b5.mono bwW.size)⟩
end Go.Proofs.Yteeemfohehpaeaa
