/- The walk of table.Range. -/
import Derived.Test.YteeemfohehpaeaaTDelF
import Derived.Test.YteeemfohehpaeaaTGather
import Derived.Test.YteeemfohehpaeaaTGetM
namespace Go.Proofs.Yteeemfohehpaeaa
set_option maxRecDepth 100000
open Go.RowKit Go.Sort

def placeN (ps : List Pk) (ks : List Int) : Nat := (ps.takeWhile (fun p => lessB p.2 ks)).length
theorem placeN_eq : ∀ (ps : List Pk) (ks : List Int) (n : Nat), PlaceL ps ks n → n = placeN ps ks
  | [], _, n, h => by have := h.le; simp at this; subst this; rfl
  | p :: ps, ks, 0, h => by
    have := h.hi p rfl
    simp [placeN, this]
  | p :: ps, ks, n + 1, h => by
    have h1 := h.lo 0 p (by omega) rfl
    have h2 := placeN_eq ps ks n ⟨by have := h.le; simp at this; omega, fun j q hj hq => h.lo (j + 1) q (by omega) (by simpa using hq), fun q hq => h.hi q (by simpa using hq)⟩
    simp only [placeN, List.takeWhile_cons, h1, if_true, List.length_cons] at h2 ⊢
    omega
theorem gat_app (a b : List Pk) : gatL (a ++ b) = gatL a ++ gatL b := by simp [gatL]
theorem PkR.gat {m : List Ent} {ps : List Pk} {ls : List (List Ent)} (h : PkR m ps ls) : gatL ps = m := by
  rw [h.fl, gatL]
  congr 1
  refine List.ext_getElem? fun i => ?_
  rw [List.getElem?_map]
  cases hp : ps[i]? with
  | none =>
    rw [List.getElem?_eq_none_iff] at hp
    simp [List.getElem?_eq_none_iff.2 (show ls.length ≤ i by rw [h.len]; exact hp)]
  | some p =>
    obtain ⟨l, h1, h2, _⟩ := h.blk hp
    simp [h1, entsOf, h2]
theorem gat_mem {qs : List Pk} {e : Ent} (h : e ∈ gatL qs) : ∃ (j : Nat) (p : Pk), qs[j]? = some p ∧ e ∈ entsOf p.1 := by
  simp only [gatL, List.mem_flatten, List.mem_map] at h
  obtain ⟨l, ⟨p, hp, rfl⟩, he⟩ := h
  obtain ⟨j, hj, rfl⟩ := List.getElem_of_mem hp
  exact ⟨j, _, by simp, he⟩
theorem PkR.key255 {m : List Ent} {ps : List Pk} {ls : List (List Ent)} (h : PkR m ps ls) : ∀ e ∈ m, e.k.length ≤ 255 := fun e he => ((fitsE_iff e).1 (okL_fits m [] h.ok e he)).2.1
theorem PkR.below {m : List Ent} {ps : List Pk} {ls : List (List Ent)} (h : PkR m ps ls) {ks : List Int} {n : Nat} (hp : PlaceL ps ks n) {j : Nat} {p : Pk} (hj : j < n) (hx : ps[j]? = some p) {e : Ent} (he : e ∈ entsOf p.1) : lessB e.k ks = true := by
  obtain ⟨l, _, h2, _, _, _, x, hx1, h3, h4⟩ := h.blk hx
  rw [entsOf, h2] at he
  have h5 := hp.lo j p hj hx
  rw [← h3] at h5
  rcases h4 e he with h6 | h6
  · rw [h6]; exact h5
  · exact lessB_trans _ _ _ h6 h5
theorem PkR.above {m : List Ent} {ps : List Pk} {ls : List (List Ent)} (h : PkR m ps ls) {ks : List Int} {n : Nat} (hp : PlaceL ps ks n) {j : Nat} {p : Pk} (hj : n < j) (hx : ps[j]? = some p) {e : Ent} (he : e ∈ entsOf p.1) : lessB e.k ks = false := by
  obtain ⟨l, hl, h2, _⟩ := h.blk hx
  rw [entsOf, h2] at he
  have hjl := (List.getElem?_eq_some_iff.1 hx).1
  have hq : ps[n]? = some (ps[n]'(by omega)) := by simp
  obtain ⟨l', hl', _, _, _, _, x, hx1, h3, _⟩ := h.blk hq
  have h5 := h.cross hj hl' hl x hx1 e he
  rw [h3] at h5
  cases hd : lessB e.k ks with
  | false => rfl
  | true =>
    have := lessB_trans _ _ _ h5 hd
    rw [hp.hi _ hq] at this; cases this
theorem PkR.range {m : List Ent} {ps : List Pk} {ls : List (List Ent)} (h : PkR m ps ls) {fs ts : List Int} {b hi : Nat} (hb : PlaceL ps fs b) (hbh : b ≤ hi) (hh : hi = ps.length ∨ (0 < ts.length ∧ ∃ n, PlaceL ps ts n ∧ min ps.length (n + 1) ≤ hi)) :
    (gatL ((ps.take hi).drop b)).filter (fun e => !delK fs ts e.k) = m.filter (fun e => !delK fs ts e.k) := by
  have e1 : m = gatL (ps.take b) ++ (gatL ((ps.take hi).drop b) ++ gatL (ps.drop hi)) := by
    rw [← gat_app, ← gat_app, ← h.gat]
    congr 1
    have : ps.take b = (ps.take hi).take b := by rw [List.take_take, Nat.min_eq_left hbh]
    rw [this, ← List.append_assoc, List.take_append_drop, List.take_append_drop]
  have e2 : (gatL (ps.take b)).filter (fun e => !delK fs ts e.k) = [] := by
    rw [List.filter_eq_nil_iff]
    intro e he
    obtain ⟨j, p, hj, hx⟩ := gat_mem he
    rw [List.getElem?_take] at hj
    split at hj
    · simp [delK, h.below hb (by assumption) hj hx]
    · cases hj
  have e3 : (gatL (ps.drop hi)).filter (fun e => !delK fs ts e.k) = [] := by
    rw [List.filter_eq_nil_iff]
    intro e he
    obtain ⟨j, p, hj, hx⟩ := gat_mem he
    rw [List.getElem?_drop] at hj
    have hl := (List.getElem?_eq_some_iff.1 hj).1
    rcases hh with rfl | ⟨h0, n, hn, hm⟩
    · omega
    · simp [delK, h.above hn (by omega) hj hx, h0]
  conv => rhs; rw [e1, List.filter_append, List.filter_append, e2, e3]
  simp
theorem PkR.gat_sub {m : List Ent} {ps : List Pk} {ls : List (List Ent)} (h : PkR m ps ls) (b hi : Nat) : (∀ e ∈ gatL ((ps.take hi).drop b), e.k.length ≤ 1000000000) ∧ (gatL ((ps.take hi).drop b)).length ≤ 900000000 := by
  refine ⟨fun e he => ?_, ?_⟩
  · obtain ⟨j, p, hj, hx⟩ := gat_mem he
    rw [List.getElem?_drop, List.getElem?_take] at hj
    split at hj
    · obtain ⟨l, hl, h2, _⟩ := h.blk hj
      rw [entsOf, h2] at hx
      have := h.key255 e (h.sub hl hx)
      omega
    · cases hj
  · have h1 := gat_le ((ps.take hi).drop b)
    have h2 := h.cnt
    have h3 := h.le
    simp only [List.length_drop, List.length_take] at h1
    omega
theorem Lx.drop2 {w : World} {b off len cap : Nat} {es : List Pk} (h : Lx 2 RP w (some ⟨b, off, none⟩) len cap es) (k : Nat) (hk : k ≤ len) : Lx 2 RP w (some ⟨b, off + k * 2, none⟩) (len - k) (cap - k) (es.drop k) := by
  refine ⟨by have := h.len_eq; simp; omega, by have := h.le; omega, by have := h.top; omega, fun ha => (by cases ha), fun ad ha j e he => ?_⟩
  cases ha
  obtain ⟨u, h1, h2⟩ := h.cell _ rfl (k + j) e (by simpa using he)
  refine ⟨u, fun i x hx => ?_, h2⟩
  have := h1 i x hx
  rw [Addr.add_lit] at this ⊢
  rw [← this, show off + k * 2 + (j * 2 + i) = off + ((k + j) * 2 + i) by omega]
theorem place_at (pb : Nat) (m : List Ent) (ps : List Pk) (ls : List (List Ent)) (ro : Option Addr) (rl rc : Nat) (ko : Option Addr) (kl kc : Nat) (ks : List Int) (w : World) (ht : Tt w pb ps m.length ro rl rc) (hp : PkR m ps ls) (tk : Tx w ko kl kc ks) (sk : kl ≤ 900000000) :
    Calls Try.prog 45 #[.pointer (some ⟨pb, 0, none⟩), .slice ko kl kc] w fun e w' => e = .returned (.int .i64 (placeN ps ks : Nat)) ∧ Below w.heap.size w w' := by
  have hrl := ht.row.len_eq
  have hpl9 : rl ≤ 1000000 := by have := hp.cnt; have := hp.le; omega
  refine (place_any pb ps m.length ro rl rc ko kl kc ks w ht tk hpl9 (by omega) hp.key_le hp.mono).mono ?_
  rintro e w' ⟨n, rfl, hn, b⟩
  exact ⟨by rw [placeN_eq ps ks n hn], b⟩
theorem placeN_ok : ∀ (ps : List Pk) (ks : List Int), PlaceL ps ks (placeN ps ks)
  | [], ks => ⟨by simp [placeN], fun j p hj => (by simp [placeN] at hj), fun p hp => (by simp at hp)⟩
  | p :: ps, ks => by
    have ih := placeN_ok ps ks
    cases hd : lessB p.2 ks with
    | true =>
      have e : placeN (p :: ps) ks = placeN ps ks + 1 := by simp [placeN, hd]
      rw [e]
      refine ⟨by have := ih.le; simp; omega, fun j q hj hq => ?_, fun q hq => ih.hi q (by simpa using hq)⟩
      cases j with
      | zero => simp at hq; subst hq; exact hd
      | succ j => exact ih.lo j q (by omega) (by simpa using hq)
    | false =>
      have e : placeN (p :: ps) ks = 0 := by simp [placeN, hd]
      rw [e]
      exact ⟨by omega, fun j q hj => (by omega), fun q hq => by simp at hq; subst hq; exact hd⟩

set_option maxHeartbeats 8000000 in
theorem range_any (pb : Nat) (m : List Ent) (fo : Option Addr) (fl fc : Nat) (fs : List Int) (to : Option Addr) (tl tc : Nat) (ts : List Int) (w : World) (h : Tb w pb m) (hf : Tx w fo fl fc fs) (hto : Tx w to tl tc ts) (sf : fl ≤ 900000000) (st : tl ≤ 900000000) (hm : 1 ≤ m.length) :
    Calls Try.prog 25 #[.pointer (some ⟨pb, 0, none⟩), .slice fo fl fc, .slice to tl tc] w fun e w' => ∃ bo lb cb, e = .returned (.slice bo lb cb) ∧ Lx 3 RE w' bo lb cb (m.filter (fun e => !delK fs ts e.k)) ∧ Below w.heap.size w w' := by
  obtain ⟨ps, ls, ro, rl, rc, ht, hpk⟩ := h
  have hrl := ht.row.len_eq
  have hpl9 : rl ≤ 1000000 := by have := hpk.cnt; have := hpk.le; omega
  have htl := hto.len_eq
  have hrl1 : 0 < rl := by have := hpk.cnt; omega
  obtain ⟨rb, rf, rfl, _⟩ := ht.row.headP hrl1
  have hrc := ht.row.le
  go_enter Try.func25, Try.ntmps25
  go_wp2_with fail
  have bA : Below w.heap.size w ((w.alloc (.cells #[.slice fo fl fc] 23)).alloc (.cells #[.slice to tl tc] 23)) := ((Below.refl _ _).alloc (Nat.le_refl _) _).alloc (by simp) _
  have x0 : ((w.alloc (.cells #[.slice fo fl fc] 23)).alloc (.cells #[.slice to tl tc] 23)).cell? ⟨w.heap.size, 0, none⟩ = some (.slice fo fl fc) := by
    refine cell_later ((Below.refl _ _).alloc (Nat.le_refl _) _) ?_
    rw [cell_of_row _ w.heap.size _ _ 23 (0, 0) (heap_alloc_new w _)]; rfl
  have x1 : ((w.alloc (.cells #[.slice fo fl fc] 23)).alloc (.cells #[.slice to tl tc] 23)).cell? ⟨w.heap.size + 1, 0, none⟩ = some (.slice to tl tc) := by
    have := heap_alloc_new (w.alloc (.cells #[.slice fo fl fc] 23)) (.cells #[.slice to tl tc] 23)
    have hs : (w.alloc (.cells #[.slice fo fl fc] 23)).heap.size = w.heap.size + 1 := by simp
    rw [hs] at this
    rw [cell_of_row _ (w.heap.size + 1) _ _ 23 (0, 0) this]; rfl
  generalize (w.alloc (.cells #[.slice fo fl fc] 23)).alloc (.cells #[.slice to tl tc] 23) = W1 at bA x0 x1 ⊢
  have t1 := ht.later bA
  have f1 := hf.later bA
  have o1 := hto.later bA
  have hpl := fun d os => place_at pb m ps ls (some ⟨rb, rf, none⟩) rl rc fo fl fc fs _ (t1.later (below_regrown W1 d os)) hpk (f1.later (below_regrown W1 d os)) sf
  have x0r := fun d os => cell_regrown x0 d os
  have c0r := fun d os => cell_regrown t1.c0 d os
  refine wp_region_quiet_below (by kernel_rfl) (by kernel_rfl) ?_
  repeat (go_big_quiet_step ((go_at_call 45; with_reducible exact Calls.regrown_of (hpl _ _))))
  (with_reducible refine wpQuiet_nil ?_)
  intro _ hw'
  obtain ⟨⟨dq, osq⟩, hw''⟩ := hw'
  subst hw''
  have bq := below_regrown W1 dq osq
  have y0 := cell_regrown x0 dq osq
  have y1 := cell_regrown x1 dq osq
  have t2 := t1.later bq
  have f2 := f1.later bq
  have o2 := o1.later bq
  clear hpl x0r c0r
  generalize grow (redrawn W1 dq) osq = W2 at bq y0 y1 t2 f2 o2 ⊢
  have bw2 : Below w.heap.size w W2 := bA.trans (bq.mono bA.size)
  have hb := placeN_ok ps fs
  have hbl := hb.le
  generalize placeN ps fs = b at hb hbl ⊢
  --TAIL
  by_cases h0 : tl = 0
  · have h0I : ¬ (0 : Int) < tl := by omega
    have bwx := bw2
    by_cases hmx : (b : Int) < rl
    · have ev1 : (rl : Int) ≤ rc := by omega
      have hc0 := t2.c0
      have hga := tgather_any (some ⟨rb, rf + b * 2, none⟩) (rl - b) (rc - b) ((ps.take (rl)).drop b) W2 (by simpa using (Lx.drop2 (t2.row.take (rl) (by omega)) b (by omega))) (by omega) (fun p hp => hpk.sz p (List.mem_of_mem_take (List.mem_of_mem_drop hp)))
      have hen : Ends W2 w.heap.size (w.heap.size + 1) fs ts := ⟨⟨fo, fl, fc, y0, f2, by omega⟩, ⟨to, tl, tc, y1, o2, by omega⟩⟩
      have hfil : Hid ((gatL ((ps.take (rl)).drop b)).filter (fun e => !delK fs ts e.k) = m.filter (fun e => !delK fs ts e.k)) := hpk.range hb (by omega) (.inl hrl.symm)
      have hsub := hpk.gat_sub b (rl)
      have bwW : Below w.heap.size w W2 := bw2
      generalize gatL ((ps.take (rl)).drop b) = gs at hga hfil hsub
      go_wp2_with fail
      all_goals
        with_reducible refine hga.mono ?_
        clear hga
        rintro e W4 ⟨go, gl, gc, rfl, lsG, hgl, b4⟩
        have hdel := delf_any W2.heap.size go gl gc gs W4 W2 w.heap.size (w.heap.size + 1) fs ts lsG hgl hen (Nat.le_refl _) b4 b4.size hsub.1 (by rw [hgl]; exact hsub.2)
        clear hgl
        go_wp2_with fail
        with_reducible refine hdel.mono ?_
        clear hdel
        rintro e W5 ⟨bo, lb, cb, rfl, hx, b5⟩
        rw [hfil.out] at hx
        go_wp2
        go_ret
        exact ⟨bo, lb, cb, rfl, hx, (bwW.trans (b4.mono bwW.size)).trans (b5.mono bwW.size)⟩
    · have hbr : b = rl := by omega
      subst hbr
      have hc0 := t2.c0
      have hnil : (ps.take b).drop b = [] := by rw [List.drop_eq_nil_iff]; simp; omega
      have hrt := t2.row.top
      have hga := fun (off l c : Nat) (hl : l = 0) (hc : c ≤ rc) => tgather_any (some ⟨rb, off, none⟩) l c ((ps.take b).drop b) W2 (by rw [hnil]; exact ⟨by simp; omega, by omega, by omega, fun ha => (by cases ha), fun ad ha j e he => (by simp at he)⟩) (by omega) (fun p hp => by rw [hnil] at hp; cases hp)
      clear hnil hrt
      have hen : Ends W2 w.heap.size (w.heap.size + 1) fs ts := ⟨⟨fo, fl, fc, y0, f2, by omega⟩, ⟨to, tl, tc, y1, o2, by omega⟩⟩
      have hfil : Hid ((gatL ((ps.take (b)).drop b)).filter (fun e => !delK fs ts e.k) = m.filter (fun e => !delK fs ts e.k)) := hpk.range hb (by omega) (.inl hrl.symm)
      have hsub := hpk.gat_sub b (b)
      have bwW : Below w.heap.size w W2 := bw2
      generalize gatL ((ps.take (b)).drop b) = gs at hga hfil hsub
      go_wp2_with fail
      all_goals
        with_reducible refine (hga _ _ _ (by omega) (by omega)).mono ?_
        clear hga
        rintro e W4 ⟨go, gl, gc, rfl, lsG, hgl, b4⟩
        have hdel := delf_any W2.heap.size go gl gc gs W4 W2 w.heap.size (w.heap.size + 1) fs ts lsG hgl hen (Nat.le_refl _) b4 b4.size hsub.1 (by rw [hgl]; exact hsub.2)
        clear hgl
        go_wp2_with fail
        with_reducible refine hdel.mono ?_
        clear hdel
        rintro e W5 ⟨bo, lb, cb, rfl, hx, b5⟩
        rw [hfil.out] at hx
        go_wp2
        go_ret
        exact ⟨bo, lb, cb, rfl, hx, (bwW.trans (b4.mono bwW.size)).trans (b5.mono bwW.size)⟩
  · have h0I : (0 : Int) < tl := by omega
    have hpl := place_at pb m ps ls (some ⟨rb, rf, none⟩) rl rc to tl tc ts W2 t2 hpk o2 st
    have hn := placeN_ok ps ts
    have hnl := hn.le
    generalize placeN ps ts = n at hpl hn hnl
    go_wp2_with fail
    with_reducible refine hpl.mono ?_
    clear hpl
    rintro e W3 ⟨rfl, b3⟩
    have z0 := cell_later b3 y0
    have z1 := cell_later b3 y1
    have t3 := t2.later b3
    have f3 := f2.later b3
    have o3 := o2.later b3
    have bw3 := bw2.trans (b3.mono bw2.size)
    clear y0 y1 t2 f2 o2
    have hh0 : 0 < ts.length := by omega
    by_cases hmn : (n : Int) + 1 < rl
    · by_cases hmx : (b : Int) < (n : Int) + 1
      · have ev1 : (n : Int) + 1 ≤ rc := by omega
        have hc0 := t3.c0
        have hga := tgather_any (some ⟨rb, rf + b * 2, none⟩) (n + 1 - b) (rc - b) ((ps.take (n + 1)).drop b) W3 (by simpa using (Lx.drop2 (t3.row.take (n + 1) (by omega)) b (by omega))) (by omega) (fun p hp => hpk.sz p (List.mem_of_mem_take (List.mem_of_mem_drop hp)))
        have hen : Ends W3 w.heap.size (w.heap.size + 1) fs ts := ⟨⟨fo, fl, fc, z0, f3, by omega⟩, ⟨to, tl, tc, z1, o3, by omega⟩⟩
        have hfil : Hid ((gatL ((ps.take (n + 1)).drop b)).filter (fun e => !delK fs ts e.k) = m.filter (fun e => !delK fs ts e.k)) := hpk.range hb (by omega) (.inr ⟨hh0, n, hn, by omega⟩)
        have hsub := hpk.gat_sub b (n + 1)
        have bwW : Below w.heap.size w W3 := bw3
        generalize gatL ((ps.take (n + 1)).drop b) = gs at hga hfil hsub
        go_wp2_with fail
        all_goals
          with_reducible refine hga.mono ?_
          clear hga
          rintro e W4 ⟨go, gl, gc, rfl, lsG, hgl, b4⟩
          have hdel := delf_any W3.heap.size go gl gc gs W4 W3 w.heap.size (w.heap.size + 1) fs ts lsG hgl hen (Nat.le_refl _) b4 b4.size hsub.1 (by rw [hgl]; exact hsub.2)
          clear hgl
          go_wp2_with fail
          with_reducible refine hdel.mono ?_
          clear hdel
          rintro e W5 ⟨bo, lb, cb, rfl, hx, b5⟩
          rw [hfil.out] at hx
          go_wp2
          go_ret
          exact ⟨bo, lb, cb, rfl, hx, (bwW.trans (b4.mono bwW.size)).trans (b5.mono bwW.size)⟩
      · have ev1 : (b : Int) ≤ rc := by omega
        have hc0 := t3.c0
        have hnil : (ps.take b).drop b = [] := by rw [List.drop_eq_nil_iff]; simp; omega
        have hrt := t3.row.top
        have hga := fun (off l c : Nat) (hl : l = 0) (hc : c ≤ rc) => tgather_any (some ⟨rb, off, none⟩) l c ((ps.take b).drop b) W3 (by rw [hnil]; exact ⟨by simp; omega, by omega, by omega, fun ha => (by cases ha), fun ad ha j e he => (by simp at he)⟩) (by omega) (fun p hp => by rw [hnil] at hp; cases hp)
        clear hnil hrt
        have hen : Ends W3 w.heap.size (w.heap.size + 1) fs ts := ⟨⟨fo, fl, fc, z0, f3, by omega⟩, ⟨to, tl, tc, z1, o3, by omega⟩⟩
        have hfil : Hid ((gatL ((ps.take (b)).drop b)).filter (fun e => !delK fs ts e.k) = m.filter (fun e => !delK fs ts e.k)) := hpk.range hb (by omega) (.inr ⟨hh0, n, hn, by omega⟩)
        have hsub := hpk.gat_sub b (b)
        have bwW : Below w.heap.size w W3 := bw3
        generalize gatL ((ps.take (b)).drop b) = gs at hga hfil hsub
        go_wp2_with fail
        all_goals
          with_reducible refine (hga _ _ _ (by omega) (by omega)).mono ?_
          clear hga
          rintro e W4 ⟨go, gl, gc, rfl, lsG, hgl, b4⟩
          have hdel := delf_any W3.heap.size go gl gc gs W4 W3 w.heap.size (w.heap.size + 1) fs ts lsG hgl hen (Nat.le_refl _) b4 b4.size hsub.1 (by rw [hgl]; exact hsub.2)
          clear hgl
          go_wp2_with fail
          with_reducible refine hdel.mono ?_
          clear hdel
          rintro e W5 ⟨bo, lb, cb, rfl, hx, b5⟩
          rw [hfil.out] at hx
          go_wp2
          go_ret
          exact ⟨bo, lb, cb, rfl, hx, (bwW.trans (b4.mono bwW.size)).trans (b5.mono bwW.size)⟩
    · by_cases hmx : (b : Int) < rl
      · have ev1 : (rl : Int) ≤ rc := by omega
        have hc0 := t3.c0
        have hga := tgather_any (some ⟨rb, rf + b * 2, none⟩) (rl - b) (rc - b) ((ps.take (rl)).drop b) W3 (by simpa using (Lx.drop2 (t3.row.take (rl) (by omega)) b (by omega))) (by omega) (fun p hp => hpk.sz p (List.mem_of_mem_take (List.mem_of_mem_drop hp)))
        have hen : Ends W3 w.heap.size (w.heap.size + 1) fs ts := ⟨⟨fo, fl, fc, z0, f3, by omega⟩, ⟨to, tl, tc, z1, o3, by omega⟩⟩
        have hfil : Hid ((gatL ((ps.take (rl)).drop b)).filter (fun e => !delK fs ts e.k) = m.filter (fun e => !delK fs ts e.k)) := hpk.range hb (by omega) (.inl hrl.symm)
        have hsub := hpk.gat_sub b (rl)
        have bwW : Below w.heap.size w W3 := bw3
        generalize gatL ((ps.take (rl)).drop b) = gs at hga hfil hsub
        go_wp2_with fail
        all_goals
          with_reducible refine hga.mono ?_
          clear hga
          rintro e W4 ⟨go, gl, gc, rfl, lsG, hgl, b4⟩
          have hdel := delf_any W3.heap.size go gl gc gs W4 W3 w.heap.size (w.heap.size + 1) fs ts lsG hgl hen (Nat.le_refl _) b4 b4.size hsub.1 (by rw [hgl]; exact hsub.2)
          clear hgl
          go_wp2_with fail
          with_reducible refine hdel.mono ?_
          clear hdel
          rintro e W5 ⟨bo, lb, cb, rfl, hx, b5⟩
          rw [hfil.out] at hx
          go_wp2
          go_ret
          exact ⟨bo, lb, cb, rfl, hx, (bwW.trans (b4.mono bwW.size)).trans (b5.mono bwW.size)⟩
      · have hbr : b = rl := by omega
        subst hbr
        have hc0 := t3.c0
        have hnil : (ps.take b).drop b = [] := by rw [List.drop_eq_nil_iff]; simp; omega
        have hrt := t3.row.top
        have hga := fun (off l c : Nat) (hl : l = 0) (hc : c ≤ rc) => tgather_any (some ⟨rb, off, none⟩) l c ((ps.take b).drop b) W3 (by rw [hnil]; exact ⟨by simp; omega, by omega, by omega, fun ha => (by cases ha), fun ad ha j e he => (by simp at he)⟩) (by omega) (fun p hp => by rw [hnil] at hp; cases hp)
        clear hnil hrt
        have hen : Ends W3 w.heap.size (w.heap.size + 1) fs ts := ⟨⟨fo, fl, fc, z0, f3, by omega⟩, ⟨to, tl, tc, z1, o3, by omega⟩⟩
        have hfil : Hid ((gatL ((ps.take (b)).drop b)).filter (fun e => !delK fs ts e.k) = m.filter (fun e => !delK fs ts e.k)) := hpk.range hb (by omega) (.inl hrl.symm)
        have hsub := hpk.gat_sub b (b)
        have bwW : Below w.heap.size w W3 := bw3
        generalize gatL ((ps.take (b)).drop b) = gs at hga hfil hsub
        go_wp2_with fail
        all_goals
          with_reducible refine (hga _ _ _ (by omega) (by omega)).mono ?_
          clear hga
          rintro e W4 ⟨go, gl, gc, rfl, lsG, hgl, b4⟩
          have hdel := delf_any W3.heap.size go gl gc gs W4 W3 w.heap.size (w.heap.size + 1) fs ts lsG hgl hen (Nat.le_refl _) b4 b4.size hsub.1 (by rw [hgl]; exact hsub.2)
          clear hgl
          go_wp2_with fail
          with_reducible refine hdel.mono ?_
          clear hdel
          rintro e W5 ⟨bo, lb, cb, rfl, hx, b5⟩
          rw [hfil.out] at hx
          go_wp2
          go_ret
          exact ⟨bo, lb, cb, rfl, hx, (bwW.trans (b4.mono bwW.size)).trans (b5.mono bwW.size)⟩
end Go.Proofs.Yteeemfohehpaeaa
