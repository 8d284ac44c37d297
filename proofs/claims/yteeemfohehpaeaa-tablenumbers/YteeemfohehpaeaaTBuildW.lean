/- The walk of table.Build: a range over slices.Chunk. -/
import Derived.Test.YteeemfohehpaeaaTBuild
import Derived.Stop.RegionWithIn
namespace Go.Proofs.Yteeemfohehpaeaa
set_option maxRecDepth 100000
open Go.RowKit Go.Shelf Go.Sort
attribute [local go_sem] Oper.semAt_some

def TPost (w : World) (l : List Ent) (e : Ending) (w' : World) : Prop :=
  (mayB 65535 l = true ∧ ∃ bo lb cb, e = .returned (.tuple #[.slice bo lb cb, .int .i64 0]) ∧ Tx w' bo lb cb (tableL l) ∧ Below w.heap.size w w') ∨ (mayB 65535 l = false ∧ e = .returned (.tuple #[.slice none 0 0, .int .i64 1]) ∧ Below w.heap.size w w')

/-- What an early way out leaves. -/
structure XStop (w : World) (m : List Ent) (js : List Nat) (W : World) : Prop where
  no : okL [] (catT m js) = false
  c0 : W.cell? ⟨w.heap.size, 0, none⟩ = some (.slice none 0 0)
  c1 : W.cell? ⟨w.heap.size + 1, 0, none⟩ = some (.int .i64 1)
  bel : Below w.heap.size w W
theorem heap_at : ∀ (w : World) (os : List Obj) (k : Nat), (os.foldl World.alloc w).heap[w.heap.size + k]? = os[k]? := by
  have : ∀ (os : List Obj) (w : World), (os.foldl World.alloc w).heap = w.heap ++ os.toArray := by
    intro os
    induction os with
    | nil => intro w; simp
    | cons o os ih =>
      intro w
      rw [List.foldl_cons, ih, show (w.alloc o).heap = w.heap.push o from rfl]
      simp
  intro w os k
  rw [this, Array.getElem?_append_right (by omega), Nat.add_sub_cancel_left]
  simp
theorem inr {n : Nat} {f : FuncId} {args : Array Value} {w : World} {R : Ending → World → Prop} (l : Nat) (h : Calls Try.prog f args w R) : CallsIn (Fence.wide.inRound l) n Try.prog f args w R := CallsIn.inRound l (callsIn_wide.2 h)

set_option maxHeartbeats 40000000 in
theorem tbuild_any (ao : Option Addr) (len cap : Nat) (m : List Ent) (w : World) (h : Lx 3 RE w ao len cap m) (hs : ∀ e ∈ m, e.k.length ≤ 1000000000000) :
    Calls Try.prog 17 #[.slice ao len cap] w fun e w' => TPost w m e w' := by
  have hlen := h.len_eq
  refine (callsIn_wide (n := 5)).1 ?_
  refine callsIn_of_wp_marks Try.func17 rfl trivial ?_ rfl
  simp only [Try.ntmps17, List.size_toArray, List.length_cons, List.length_nil, Nat.reduceAdd, Nat.reduceSub, Array.replicate_succ, Array.replicate_zero, List.push_toArray, List.append_toArray, List.nil_append, List.cons_append]
  by_cases hbad : len < 1 ∨ 65535 < len
  · have hno : mayB 65535 m = false := by
      cases hy : mayB 65535 m with
      | false => rfl
      | true => have h3 := (mayB_iff _ _).1 hy; omega
    by_cases hb1 : len < 1
    · have i1 : (len : Int) < 1 := by omega
      gi_wp2_with fail
      refine ⟨.tuple #[.slice none 0 0, .int .i64 1], ?_, .inr ⟨hno, rfl, Below.alloc (Below.alloc (Below.refl _ _) (Nat.le_refl _) _) (by simp) _⟩⟩
      simp [results, Try.results17, go_sem]
    · have i1 : ¬ (len : Int) < 1 := by omega
      have i2 : (65535 : Int) < len := by omega
      gi_wp2_with fail
      refine ⟨.tuple #[.slice none 0 0, .int .i64 1], ?_, .inr ⟨hno, rfl, Below.alloc (Below.alloc (Below.refl _ _) (Nat.le_refl _) _) (by simp) _⟩⟩
      simp [results, Try.results17, go_sem]
  · obtain ⟨b, off, rfl, hc⟩ := h.headE (by omega)
    have i1 : ¬ (len : Int) < 1 := by omega
    have i2 : ¬ (65535 : Int) < len := by omega
    gi_wp2_with fail
    refine ⟨trivial, ?_⟩
    refine (callsIn_wide.2 (chunk_any _ len cap _)).mono ?_
    rintro e W1 ⟨rfl, hW1⟩
    have hsz : W1.heap.size = w.heap.size + 7 := by rw [hW1]; simp
    have b1 : Below w.heap.size w W1 := by
      rw [hW1]
      refine Below.alloc (Below.alloc (Below.alloc (Below.alloc (Below.alloc (Below.alloc (Below.alloc (Below.refl _ _) ?_ _) ?_ _) ?_ _) ?_ _) ?_ _) ?_ _) ?_ _ <;> simp <;> omega
    have cells : ∀ k v t, W1.heap[w.heap.size + k]? = some (.cells #[v] t) → W1.cell? ⟨w.heap.size + k, 0, none⟩ = some v ∧ W1.frozen? ⟨w.heap.size + k, 0, none⟩ = false := fun k v t hk => ⟨by rw [cell_of_row W1 _ 0 _ t (0, 0) hk]; rfl, frozen_of_row W1 _ 0 _ t hk⟩
    have h0 : W1.heap[w.heap.size + 0]? = some (.cells #[.slice none 0 0] 23) := by rw [hW1]; exact heap_at w [.cells #[.slice none 0 0] 23, .cells #[.int .i64 0] 35, .cells #[.slice none 0 0] 23, .cells #[.slice none 0 0] 23, .cells #[.slice none 0 0] 23, .cells #[.slice (some ⟨b, off, none⟩) len cap] 22, .cells #[.int .i64 8] 3] _
    have h1 : W1.heap[w.heap.size + 1]? = some (.cells #[.int .i64 0] 35) := by rw [hW1]; exact heap_at w [.cells #[.slice none 0 0] 23, .cells #[.int .i64 0] 35, .cells #[.slice none 0 0] 23, .cells #[.slice none 0 0] 23, .cells #[.slice none 0 0] 23, .cells #[.slice (some ⟨b, off, none⟩) len cap] 22, .cells #[.int .i64 8] 3] _
    have h2 : W1.heap[w.heap.size + 2]? = some (.cells #[.slice none 0 0] 23) := by rw [hW1]; exact heap_at w [.cells #[.slice none 0 0] 23, .cells #[.int .i64 0] 35, .cells #[.slice none 0 0] 23, .cells #[.slice none 0 0] 23, .cells #[.slice none 0 0] 23, .cells #[.slice (some ⟨b, off, none⟩) len cap] 22, .cells #[.int .i64 8] 3] _
    have h3 : W1.heap[w.heap.size + 3]? = some (.cells #[.slice none 0 0] 23) := by rw [hW1]; exact heap_at w [.cells #[.slice none 0 0] 23, .cells #[.int .i64 0] 35, .cells #[.slice none 0 0] 23, .cells #[.slice none 0 0] 23, .cells #[.slice none 0 0] 23, .cells #[.slice (some ⟨b, off, none⟩) len cap] 22, .cells #[.int .i64 8] 3] _
    have h4 : W1.heap[w.heap.size + 4]? = some (.cells #[.slice none 0 0] 23) := by rw [hW1]; exact heap_at w [.cells #[.slice none 0 0] 23, .cells #[.int .i64 0] 35, .cells #[.slice none 0 0] 23, .cells #[.slice none 0 0] 23, .cells #[.slice none 0 0] 23, .cells #[.slice (some ⟨b, off, none⟩) len cap] 22, .cells #[.int .i64 8] 3] _
    have h5 : W1.heap[w.heap.size + 5]? = some (.cells #[.slice (some ⟨b, off, none⟩) len cap] 22) := by rw [hW1]; exact heap_at w [.cells #[.slice none 0 0] 23, .cells #[.int .i64 0] 35, .cells #[.slice none 0 0] 23, .cells #[.slice none 0 0] 23, .cells #[.slice none 0 0] 23, .cells #[.slice (some ⟨b, off, none⟩) len cap] 22, .cells #[.int .i64 8] 3] _
    have h6 : W1.heap[w.heap.size + 6]? = some (.cells #[.int .i64 8] 3) := by rw [hW1]; exact heap_at w [.cells #[.slice none 0 0] 23, .cells #[.int .i64 0] 35, .cells #[.slice none 0 0] 23, .cells #[.slice none 0 0] 23, .cells #[.slice none 0 0] 23, .cells #[.slice (some ⟨b, off, none⟩) len cap] 22, .cells #[.int .i64 8] 3] _
    simp only [World.size_alloc, Nat.add_assoc, Nat.reduceAdd]
    clear hW1
    have c0 := cells _ _ _ h0
    have c1 := cells _ _ _ h1
    have c2 := cells _ _ _ h2
    have c3 := cells _ _ _ h3
    have c4 := cells _ _ _ h4
    have c5 := cells _ _ _ h5
    have c6 := cells _ _ _ h6
    rw [Nat.add_zero] at c0
    clear cells h0 h1 h2 h3 h4 h5 h6
    have ti0 : TI w m [] W1 W1 none 0 0 none 0 0 none 0 0 :=
      ⟨⟨c0.1, c1.1, c2.1, c3.1, c4.1, c0.2, c1.2, c2.2, c3.2, c4.2, ⟨⟨rfl, .inl ⟨rfl, rfl⟩⟩, by simp [bodyT], by omega⟩, ⟨⟨rfl, .inl ⟨rfl, rfl⟩⟩, by simp [lensT], by omega⟩, by simp [own, Value.ownBlock], Tx.nil _, by omega, Kept.refl _ _ _⟩, rfl, by simp⟩
    have hle := h.le
    have htop := h.top
    unfold maxLen at htop
    gi_wp2_with fail
    refine wpIn_rangeFunc_ownF (w0 := W1) rfl (by omega) (gf := 59) (lb := #[.pointer (some ⟨w.heap.size + 5, 0, none⟩), .pointer (some ⟨w.heap.size + 6, 0, none⟩)]) rfl trivial (enters_of Try.func59 (by kernel_rfl) rfl)
      (chunk_stops Fence.wide 4 trivial rfl (by omega) (w.heap.size + 5) (w.heap.size + 6) b off len cap (by omega) hle (by omega) (Kept (w.heap.size + 7) [w.heap.size, w.heap.size + 1, w.heap.size + 2, w.heap.size + 3, w.heap.size + 4]) (fun A B hk p hp => hk.cell p (by rcases hp with e | e <;> omega) (by rcases hp with e | e <;> simp [e])) W1 c5.1 c6.1)
      (fun h k => h.trans k) (fun W l o o' hl hlo _ _ => ⟨rfl, rfl, rfl, by simp, fun k hk _ => World.putObj_heap_other (by omega)⟩) (Below.refl _ _) (fun _ => rfl)
      (fun pre W => ∃ bo bn bc lo ln lc ko kl kc, TI w m (pre.map (clT len)) W1 W bo bn bc lo ln lc ko kl kc)
      (fun c pre W => c = .ret ∧ XStop w m (pre.map (clT len)) W)
      (fun s A B row hs hg hr => by
        obtain ⟨bo, bn, bc, lo, ln, lc, ko, kl, kc, ht⟩ := hs
        exact ⟨bo, bn, bc, lo, ln, lc, ko, kl, kc, ht.1.kept hg (fun r e => ⟨by have := (hr r e).1; omega, (hr r e).2⟩), ht.2⟩)
      (fun c s A B row hs hg hr => ⟨hs.1, hs.2.no, cell_kept hs.2.c0 hg (fun r e => (hr r e).2), cell_kept hs.2.c1 hg (fun r e => (hr r e).2), hs.2.bel.grown hg hs.2.bel.size (fun r e => by have := (hr r e).1; omega)⟩)
      ⟨none, 0, 0, none, 0, 0, none, 0, 0, ti0⟩
      (fun x => { tmps := #[.slice (some ⟨b, off, none⟩) len cap, undef, .pointer (some ⟨w.heap.size, 0, none⟩), .pointer (some ⟨w.heap.size + 1, 0, none⟩), .pointer (some ⟨w.heap.size + 2, 0, none⟩), .pointer (some ⟨w.heap.size + 3, 0, none⟩), .pointer (some ⟨w.heap.size + 4, 0, none⟩), partV b off len x, undef, undef, undef, undef, .slice (some ⟨b, off, none⟩) len cap, .int .i64 len, .bool false, .bool false, .slice (some ⟨b, off, none⟩) len cap, .int .i64 len, .bool false, .bool false, .slice (some ⟨b, off, none⟩) len cap, .func (.func 59) #[] #[.pointer (some ⟨w.heap.size + 5, 0, none⟩), .pointer (some ⟨w.heap.size + 6, 0, none⟩)], partV b off len x, undef, undef, undef, undef, undef, undef, undef, undef, undef, undef, undef, undef, undef, undef, undef, undef, undef, undef, undef, undef, undef, undef, undef, undef, undef, undef, undef, undef, undef, undef, undef, undef, undef, undef, undef, undef, undef, undef, undef, undef, undef, undef, undef, undef, undef, undef, undef, undef], defers := [] }) ?assign ?body ?done ?stop
    case assign =>
      intro l x W K hK
      gi_wp2
      exact hK
    case body =>
      rintro l pre x W ⟨bo, bn, bc, lo, ln, lc, ko, kl, kc, ht, hok, hble⟩ hlt
      have hx := clT_lt len x (by omega)
      have hjl : (pre.map (clT len)).length = pre.length := by simp
      obtain ⟨js, hjs⟩ : ∃ js, Hid ((pre ++ [x]).map (clT len) = js ++ [clT len x] ∧ pre.map (clT len) = js) := ⟨_, by simp, rfl⟩
      rw [hjs.out.2] at ht hok hble hjl
      unfold partV
      generalize clT len x = i at hx hjs ⊢
      have hmi : m[8 * i]? = some (m[8 * i]'(by omega)) := by simp
      obtain ⟨jo, jl, jc, _, _, _, d0, _, _, tj, _⟩ := hc (8 * i) _ hmi
      have hbi := okL_blk m i (by omega) (lastK [] (catT m js))
      have hmay := may_blk m i (by omega)
      have hjle := hs _ (List.getElem_mem (l := m) (n := 8 * i) (by omega))
      generalize (m[8 * i]'(by omega)).k = jk at tj hbi hjle
      rw [tj.len_eq] at hjle
      have hos : Hid (okL [] (catT m (js ++ [i])) = okL (lastK [] (catT m js)) (blk m i)) := by show _ = _; rw [catT_snoc, okL_app, hok, Bool.true_and]
      have hkp0 := ht.kp
      have bWw : Below w.heap.size w W := b1.trans (ht.kp.below (by omega) (by simp))
      have dW := cell_later bWw d0
      have tkW := ht.tk.later bWw
      have tjW := tj.later bWw
      have c4W := ht.c4
      have tW := ht.rebase
      have hpart := h.part (8 * i) (min 8 (len - 8 * i)) (by omega)
      have hpk : ∀ e ∈ blk m i, e.k.length ≤ 1000000000000 := fun e he => hs e (blk_mem m i e he)
      have hpe : (m.drop (8 * i)).take (min 8 (len - 8 * i)) = blk m i := by
        unfold blk
        rcases Nat.le_total 8 (len - 8 * i) with h8 | h8
        · rw [Nat.min_eq_left h8]
        · rw [Nat.min_eq_right h8, List.take_of_length_le (by simp; omega), List.take_of_length_le (by simp; omega)]
      rw [hpe] at hpart
      have hless := less_any ko jo kl kc jl jc _ jk W.drew (tkW.later (Below.refl _ _).drew) (tjW.later (Below.refl _ _).drew) (by have := ht.kle; omega) (by omega)
      clear hpe
      obtain ⟨p, hp, hp8, hp7⟩ : ∃ p, min 8 (len - 8 * i) = p + 1 ∧ 8 * i + p < len ∧ p < 8 := ⟨min 8 (len - 8 * i) - 1, by omega, by omega, by omega⟩
      have hpl := blk_length m i
      rw [hlen, hp] at hpl
      rw [hp] at hpart ⊢
      clear hp
      have hml : m[8 * i + p]? = some (m[8 * i + p]'(by omega)) := by simp
      obtain ⟨eo, el, ec, _, _, _, g0, _, _, te, _⟩ := hc (8 * i + p) _ hml
      have hlast : Hid (lastK [] (catT m (js ++ [i])) = (m[8 * i + p]'(by omega)).k) := by
        show _ = _
        rw [catT_snoc, lastK_app]
        refine lastK_of _ _ _ ?_
        rw [hpl, show p + 1 - 1 = p by omega]
        unfold blk
        rw [List.getElem?_take, if_pos (by omega), List.getElem?_drop, hml]
      have hele := hs _ (List.getElem_mem (l := m) (n := 8 * i + p) (by omega))
      generalize (m[8 * i + p]'(by omega)).k = ek at te hlast hele
      rw [te.len_eq] at hele
      rw [show off + (8 * i + p) * 3 = off + 8 * i * 3 + p * 3 by omega] at g0
      clear hml
      have hfail : ∀ (W' : World), TJ w W W' (bodyT m js) (lensT m js) (lastK [] (catT m js)) bo bn bc lo ln lc ko kl kc → KeepsOthers W W' → okL (lastK [] (catT m js)) (blk m i) = false →
          KeepsOthers W ((W'.setCell ⟨w.heap.size, 0, none⟩ (.slice none 0 0)).setCell ⟨w.heap.size + 1, 0, none⟩ (.int .i64 1)) ∧ XStop w m ((pre ++ [x]).map (clT len)) ((W'.setCell ⟨w.heap.size, 0, none⟩ (.slice none 0 0)).setCell ⟨w.heap.size + 1, 0, none⟩ (.int .i64 1)) := fun W' t ko9 hno =>
        ⟨(ko9.trans (KeepsOthers.setCell _ _ _)).trans (KeepsOthers.setCell _ _ _), by rw [hjs.out.1, hos.out]; exact hno,
          by rw [World.cell?_setCell_other _ _ _ _ (by simp)]; exact World.cell?_setCell_same _ _ _ t.c0,
          World.cell?_setCell_same _ _ _ (by rw [World.cell?_setCell_other _ _ _ _ (by simp)]; exact t.c1),
          b1.trans (Below.setCell (p := ⟨w.heap.size + 1, 0, none⟩) (Below.setCell (p := ⟨w.heap.size, 0, none⟩) (show Below w.heap.size W1 W' from (ht.kp.trans t.kp).below (by omega) (by simp)) (Nat.le_refl _) _) (by simp) _)⟩
      have hbz : bn ≤ 300000000 := by omega
      have hLl : ln ≤ 40000 := by have h1 := ht.gl.len; rw [lensT_length] at h1; omega
      gi_wp2_with fail
      cases hF : lessB (lastK [] (catT m js)) jk with
      | false =>
        rw [hF] at hless
        have hno : okL (lastK [] (catT m js)) (blk m i) = false := by rw [hbi, hF]; simp
        gi_region_with (refine ⟨trivial, ?_⟩; gi_at_call 35; refine (inr l hless).mono ?_; rintro e W2 ⟨rfl, b2⟩)
        all_goals
          have t2 := tW.later (((Below.refl _ _).drew).trans b2)
          have hend := hfail W2 t2 (ko_below (((Below.refl _ _).drew).trans b2)) hno
          have x0 := t2.c0
          have x1 := t2.c1
          have y0 := t2.z0
          have y1 := t2.z1
          gi_wp2
          exact ⟨hend.1, rfl, hend.2⟩
      | true =>
        rw [hF] at hless
        gi_region_with (refine ⟨trivial, ?_⟩; gi_at_call 35; refine (inr l hless).mono ?_; rintro e W2 ⟨rfl, b2⟩)
        all_goals
          have B2 : Below W.heap.size W W2 := ((Below.refl _ _).drew).trans b2
          have t2 := tW.later B2
          have hp2 := (hpart.later RE.stable bWw).later RE.stable B2
          have k2 := ko_below B2
          clear hless b2
          cases hE : okL [] (blk m i) with
          | false =>
            have hno : okL (lastK [] (catT m js)) (blk m i) = false := by rw [hbi, hE]; simp
            have hbu := build_arg _ _ _ (blk m i) W2 hp2 hpk (by rw [hmay, hE])
            gi_wp2_with (refine ⟨trivial, ?_⟩; gi_at_call 32; refine (inr l hbu).mono ?_; rintro e W3 ⟨rfl, b3⟩; have t3 := t2.later b3; have x0 := t3.c0; have x1 := t3.c1; have y0 := t3.z0; have y1 := t3.z1)
            have hend := hfail W3 t3 (k2.trans (ko_below b3)) hno
            exact ⟨hend.1, rfl, hend.2⟩
          | true =>
            have hyes : okL [] (catT m (js ++ [i])) = true := by rw [hos.out, hbi, hE, hF]; rfl
            have hbu := build_yes _ _ _ (blk m i) W2 hp2 hpk (by rw [hmay, hE]) (fit_blk m i hE) _ rfl
            have hbl := block_blk m i hE
            have hbs := bodyT_snoc m js i
            have hls := lensT_snoc m js i
            generalize blockL (blk m i) = bb at hbu hbl hbs hls
            gi_wp2_with fail
            refine ⟨trivial, ?_⟩
            refine (inr l hbu).mono ?_
            rintro e W3 ⟨qo, ql, qc, rfl, tq, b3⟩
            have t3 := t2.later b3
            have k3 := k2.trans (ko_below b3)
            have hql := tq.len_eq
            rw [hql] at hbl hls
            have x2 := t3.c2
            have B3 := B2.trans (b3.mono B2.size)
            clear hbu t2 hp2 k2
            gi_wp2_with (gi_at_builtin; refine wpListIn_gr rfl _ _ rfl (w.heap.size + 7) bo bn bc (bodyT m js) rfl t3.gb qo ql qc bb rfl tq (by omega) ?_; intro bo4 bn4 bc4 W4 hn4 g4 m4; have x24 := (t3.at2 m4).1; have y24 := (t3.at2 m4).2)
            have t4 := t3.put2 g4 m4
            have k4 := (k3.trans (ko_off m4.off (gr_cells t3.gb))).trans (KeepsOthers.setCell W4 ⟨w.heap.size + 2, 0, none⟩ (.slice bo4 bn4 bc4))
            clear m4 g4 x24 y24 t3 k3 x2
            generalize W4.setCell ⟨w.heap.size + 2, 0, none⟩ (.slice bo4 bn4 bc4) = V4 at t4 k4 ⊢
            have hput := put_any none 0 0 (ql : Int) 4 [] V4.drew (Tx.nil _) (by omega) (by omega) (by omega) (by omega) (by omega)
            rw [show clampN 4 = 4 from rfl, List.nil_append] at hput
            have x3 := t4.c3
            have hwq : IntKind.u64.wrap (ql : Int) = ql := by rw [IntKind.wrap_u64]; omega
            refine wpIn_region_any (by kernel_rfl) ?_
            try (change wpAnyIn _ _ _ _ _ _ _ _ _ (World.drew _))
            refine wpAnyIn_ready (rs := [0, 1]) (by kernel_rfl) (by simp) ?_
            refine AllReadyIn.cons rfl (fun K hK => ?_) ?_
            ·
              go_simp
              refine hK _ _ ?_
              clear hK K
              refine wpAnyIn_ready (rs := [1]) (by kernel_rfl) (by simp) ?_
              refine AllReadyIn.cons rfl (fun K hK => ?_) ?_
              ·
                go_simp
                refine hK _ _ ?_
                clear hK K
                refine wpAnyIn_ready (rs := [2]) (by kernel_rfl) (by simp) ?_
                refine AllReadyIn.cons rfl (fun K hK => ?_) ?_
                ·
                  go_simp
                  refine hK _ _ ?_
                  clear hK K
                  refine wpAnyIn_ready (rs := [3]) (by kernel_rfl) (by simp) ?_
                  refine AllReadyIn.cons rfl (fun K hK => ?_) ?_
                  ·
                    go_simp
                    refine hK _ _ ?_
                    clear hK K
                    refine wpAnyIn_ready (rs := [4]) (by kernel_rfl) (by simp) ?_
                    refine AllReadyIn.cons rfl (fun K hK => ?_) ?_
                    ·
                      go_simp
                      refine ⟨trivial, (inr l hput).mono ?_⟩
                      rintro e W5 ⟨po, pl, pc, rfl, tp, b5⟩
                      have t5 := t4.later (((Below.refl _ _).drew).trans b5)
                      have hpl4 := tp.len_eq
                      rw [length_low] at hpl4
                      have hpl5 : pl ≤ 4 := by omega
                      clear hpl4
                      have x5 := t5.c3
                      refine hK _ _ ?_
                      clear hK K
                      refine wpAnyIn_ready (rs := [5]) (by kernel_rfl) (by simp) ?_
                      refine AllReadyIn.cons rfl (fun K hK => ?_) ?_
                      ·
                        refine step_gr_in rfl (.tmp 41) (.tmp 45) rfl (w.heap.size + 7) lo ln lc _ rfl t5.gl po pl pc _ rfl tp (by omega) ?_
                        intro lo6 ln6 lc6 W6 hn6 g6 m6
                        have x6 := (t5.at3 m6).1
                        have y6 := (t5.at3 m6).2
                        refine hK _ _ ?_
                        clear hK K
                        refine wpAnyIn_ready (rs := [6]) (by kernel_rfl) (by simp) ?_
                        refine AllReadyIn.cons rfl (fun K hK => ?_) ?_
                        ·
                          go_simp
                          refine hK _ _ ?_
                          clear hK K
                          refine wpAnyIn_done (by kernel_rfl) ?_ _
                          have t6 := t5.put3 g6 m6
                          have k6 := (((k4.trans (ko_below (((Below.refl _ _).drew).trans b5))).trans (ko_off m6.off (gr_cells t5.gl))).trans (KeepsOthers.setCell W6 ⟨w.heap.size + 3, 0, none⟩ (.slice lo6 ln6 lc6)))
                          clear x6 y6 x5 x3 m6 g6 t5
                          generalize W6.setCell ⟨w.heap.size + 3, 0, none⟩ (.slice lo6 ln6 lc6) = V6 at t6 k6 ⊢
                          have b6 : Below w.heap.size w V6 := b1.trans ((ht.kp.trans t6.kp).below (by omega) (by simp))
                          have g06 := cell_later b6 g0
                          have x4 := t6.c4
                          have y4 := t6.z4
                          have t7 := t6.put4 te hele
                          have hbn4 := hn4.out
                          have hend : Hid (KeepsOthers W (V6.setCell ⟨w.heap.size + 4, 0, none⟩ (.slice eo el ec)) ∧ TI w m (js ++ [i]) W1 (V6.setCell ⟨w.heap.size + 4, 0, none⟩ (.slice eo el ec)) bo4 bn4 bc4 lo6 ln6 lc6 eo el ec ∧ Kept (w.heap.size + 7) [w.heap.size, w.heap.size + 1, w.heap.size + 2, w.heap.size + 3, w.heap.size + 4] W (V6.setCell ⟨w.heap.size + 4, 0, none⟩ (.slice eo el ec))) :=
                            ⟨k6.trans (KeepsOthers.setCell _ _ _), ⟨⟨t7.c0, t7.c1, t7.c2, t7.c3, t7.c4, t7.z0, t7.z1, t7.z2, t7.z3, t7.z4, by rw [hbs]; exact t7.gb, by rw [hls]; exact t7.gl, t7.dis, by rw [hlast.out]; exact t7.tk, t7.kle, ht.kp.trans t7.kp⟩, hyes, by rw [List.length_append, List.length_singleton]; omega⟩, t7.kp⟩
                          clear t7 k6 hbn4
                          gi_wp2
                          exact ⟨hend.out.1, hend.out.2.2, bo4, bn4, bc4, lo6, ln6, lc6, eo, el, ec, by rw [hjs.out.1]; exact hend.out.2.1⟩
                        exact AllReadyIn.nil
                      exact AllReadyIn.nil
                    exact AllReadyIn.nil
                  exact AllReadyIn.nil
                exact AllReadyIn.nil
              exact AllReadyIn.nil
            refine AllReadyIn.cons rfl (fun K hK => ?_) ?_
            ·
              go_simp
              refine hK _ _ ?_
              clear hK K
              refine wpAnyIn_ready (rs := [0, 2]) (by kernel_rfl) (by simp) ?_
              refine AllReadyIn.cons rfl (fun K hK => ?_) ?_
              ·
                go_simp
                refine hK _ _ ?_
                clear hK K
                refine wpAnyIn_ready (rs := [2]) (by kernel_rfl) (by simp) ?_
                refine AllReadyIn.cons rfl (fun K hK => ?_) ?_
                ·
                  go_simp
                  refine hK _ _ ?_
                  clear hK K
                  refine wpAnyIn_ready (rs := [3]) (by kernel_rfl) (by simp) ?_
                  refine AllReadyIn.cons rfl (fun K hK => ?_) ?_
                  ·
                    go_simp
                    refine hK _ _ ?_
                    clear hK K
                    refine wpAnyIn_ready (rs := [4]) (by kernel_rfl) (by simp) ?_
                    refine AllReadyIn.cons rfl (fun K hK => ?_) ?_
                    ·
                      go_simp
                      refine ⟨trivial, (inr l hput).mono ?_⟩
                      rintro e W5 ⟨po, pl, pc, rfl, tp, b5⟩
                      have t5 := t4.later (((Below.refl _ _).drew).trans b5)
                      have hpl4 := tp.len_eq
                      rw [length_low] at hpl4
                      have hpl5 : pl ≤ 4 := by omega
                      clear hpl4
                      have x5 := t5.c3
                      refine hK _ _ ?_
                      clear hK K
                      refine wpAnyIn_ready (rs := [5]) (by kernel_rfl) (by simp) ?_
                      refine AllReadyIn.cons rfl (fun K hK => ?_) ?_
                      ·
                        refine step_gr_in rfl (.tmp 41) (.tmp 45) rfl (w.heap.size + 7) lo ln lc _ rfl t5.gl po pl pc _ rfl tp (by omega) ?_
                        intro lo6 ln6 lc6 W6 hn6 g6 m6
                        have x6 := (t5.at3 m6).1
                        have y6 := (t5.at3 m6).2
                        refine hK _ _ ?_
                        clear hK K
                        refine wpAnyIn_ready (rs := [6]) (by kernel_rfl) (by simp) ?_
                        refine AllReadyIn.cons rfl (fun K hK => ?_) ?_
                        ·
                          go_simp
                          refine hK _ _ ?_
                          clear hK K
                          refine wpAnyIn_done (by kernel_rfl) ?_ _
                          have t6 := t5.put3 g6 m6
                          have k6 := (((k4.trans (ko_below (((Below.refl _ _).drew).trans b5))).trans (ko_off m6.off (gr_cells t5.gl))).trans (KeepsOthers.setCell W6 ⟨w.heap.size + 3, 0, none⟩ (.slice lo6 ln6 lc6)))
                          clear x6 y6 x5 x3 m6 g6 t5
                          generalize W6.setCell ⟨w.heap.size + 3, 0, none⟩ (.slice lo6 ln6 lc6) = V6 at t6 k6 ⊢
                          have b6 : Below w.heap.size w V6 := b1.trans ((ht.kp.trans t6.kp).below (by omega) (by simp))
                          have g06 := cell_later b6 g0
                          have x4 := t6.c4
                          have y4 := t6.z4
                          have t7 := t6.put4 te hele
                          have hbn4 := hn4.out
                          have hend : Hid (KeepsOthers W (V6.setCell ⟨w.heap.size + 4, 0, none⟩ (.slice eo el ec)) ∧ TI w m (js ++ [i]) W1 (V6.setCell ⟨w.heap.size + 4, 0, none⟩ (.slice eo el ec)) bo4 bn4 bc4 lo6 ln6 lc6 eo el ec ∧ Kept (w.heap.size + 7) [w.heap.size, w.heap.size + 1, w.heap.size + 2, w.heap.size + 3, w.heap.size + 4] W (V6.setCell ⟨w.heap.size + 4, 0, none⟩ (.slice eo el ec))) :=
                            ⟨k6.trans (KeepsOthers.setCell _ _ _), ⟨⟨t7.c0, t7.c1, t7.c2, t7.c3, t7.c4, t7.z0, t7.z1, t7.z2, t7.z3, t7.z4, by rw [hbs]; exact t7.gb, by rw [hls]; exact t7.gl, t7.dis, by rw [hlast.out]; exact t7.tk, t7.kle, ht.kp.trans t7.kp⟩, hyes, by rw [List.length_append, List.length_singleton]; omega⟩, t7.kp⟩
                          clear t7 k6 hbn4
                          gi_wp2
                          exact ⟨hend.out.1, hend.out.2.2, bo4, bn4, bc4, lo6, ln6, lc6, eo, el, ec, by rw [hjs.out.1]; exact hend.out.2.1⟩
                        exact AllReadyIn.nil
                      exact AllReadyIn.nil
                    exact AllReadyIn.nil
                  exact AllReadyIn.nil
                exact AllReadyIn.nil
              refine AllReadyIn.cons rfl (fun K hK => ?_) ?_
              ·
                go_simp
                refine hK _ _ ?_
                clear hK K
                refine wpAnyIn_ready (rs := [0, 3]) (by kernel_rfl) (by simp) ?_
                refine AllReadyIn.cons rfl (fun K hK => ?_) ?_
                ·
                  go_simp
                  refine hK _ _ ?_
                  clear hK K
                  refine wpAnyIn_ready (rs := [3]) (by kernel_rfl) (by simp) ?_
                  refine AllReadyIn.cons rfl (fun K hK => ?_) ?_
                  ·
                    go_simp
                    refine hK _ _ ?_
                    clear hK K
                    refine wpAnyIn_ready (rs := [4]) (by kernel_rfl) (by simp) ?_
                    refine AllReadyIn.cons rfl (fun K hK => ?_) ?_
                    ·
                      go_simp
                      refine ⟨trivial, (inr l hput).mono ?_⟩
                      rintro e W5 ⟨po, pl, pc, rfl, tp, b5⟩
                      have t5 := t4.later (((Below.refl _ _).drew).trans b5)
                      have hpl4 := tp.len_eq
                      rw [length_low] at hpl4
                      have hpl5 : pl ≤ 4 := by omega
                      clear hpl4
                      have x5 := t5.c3
                      refine hK _ _ ?_
                      clear hK K
                      refine wpAnyIn_ready (rs := [5]) (by kernel_rfl) (by simp) ?_
                      refine AllReadyIn.cons rfl (fun K hK => ?_) ?_
                      ·
                        refine step_gr_in rfl (.tmp 41) (.tmp 45) rfl (w.heap.size + 7) lo ln lc _ rfl t5.gl po pl pc _ rfl tp (by omega) ?_
                        intro lo6 ln6 lc6 W6 hn6 g6 m6
                        have x6 := (t5.at3 m6).1
                        have y6 := (t5.at3 m6).2
                        refine hK _ _ ?_
                        clear hK K
                        refine wpAnyIn_ready (rs := [6]) (by kernel_rfl) (by simp) ?_
                        refine AllReadyIn.cons rfl (fun K hK => ?_) ?_
                        ·
                          go_simp
                          refine hK _ _ ?_
                          clear hK K
                          refine wpAnyIn_done (by kernel_rfl) ?_ _
                          have t6 := t5.put3 g6 m6
                          have k6 := (((k4.trans (ko_below (((Below.refl _ _).drew).trans b5))).trans (ko_off m6.off (gr_cells t5.gl))).trans (KeepsOthers.setCell W6 ⟨w.heap.size + 3, 0, none⟩ (.slice lo6 ln6 lc6)))
                          clear x6 y6 x5 x3 m6 g6 t5
                          generalize W6.setCell ⟨w.heap.size + 3, 0, none⟩ (.slice lo6 ln6 lc6) = V6 at t6 k6 ⊢
                          have b6 : Below w.heap.size w V6 := b1.trans ((ht.kp.trans t6.kp).below (by omega) (by simp))
                          have g06 := cell_later b6 g0
                          have x4 := t6.c4
                          have y4 := t6.z4
                          have t7 := t6.put4 te hele
                          have hbn4 := hn4.out
                          have hend : Hid (KeepsOthers W (V6.setCell ⟨w.heap.size + 4, 0, none⟩ (.slice eo el ec)) ∧ TI w m (js ++ [i]) W1 (V6.setCell ⟨w.heap.size + 4, 0, none⟩ (.slice eo el ec)) bo4 bn4 bc4 lo6 ln6 lc6 eo el ec ∧ Kept (w.heap.size + 7) [w.heap.size, w.heap.size + 1, w.heap.size + 2, w.heap.size + 3, w.heap.size + 4] W (V6.setCell ⟨w.heap.size + 4, 0, none⟩ (.slice eo el ec))) :=
                            ⟨k6.trans (KeepsOthers.setCell _ _ _), ⟨⟨t7.c0, t7.c1, t7.c2, t7.c3, t7.c4, t7.z0, t7.z1, t7.z2, t7.z3, t7.z4, by rw [hbs]; exact t7.gb, by rw [hls]; exact t7.gl, t7.dis, by rw [hlast.out]; exact t7.tk, t7.kle, ht.kp.trans t7.kp⟩, hyes, by rw [List.length_append, List.length_singleton]; omega⟩, t7.kp⟩
                          clear t7 k6 hbn4
                          gi_wp2
                          exact ⟨hend.out.1, hend.out.2.2, bo4, bn4, bc4, lo6, ln6, lc6, eo, el, ec, by rw [hjs.out.1]; exact hend.out.2.1⟩
                        exact AllReadyIn.nil
                      exact AllReadyIn.nil
                    exact AllReadyIn.nil
                  exact AllReadyIn.nil
                refine AllReadyIn.cons rfl (fun K hK => ?_) ?_
                ·
                  go_simp
                  refine hK _ _ ?_
                  clear hK K
                  refine wpAnyIn_ready (rs := [0, 4]) (by kernel_rfl) (by simp) ?_
                  refine AllReadyIn.cons rfl (fun K hK => ?_) ?_
                  ·
                    go_simp
                    refine hK _ _ ?_
                    clear hK K
                    refine wpAnyIn_ready (rs := [4]) (by kernel_rfl) (by simp) ?_
                    refine AllReadyIn.cons rfl (fun K hK => ?_) ?_
                    ·
                      go_simp
                      refine ⟨trivial, (inr l hput).mono ?_⟩
                      rintro e W5 ⟨po, pl, pc, rfl, tp, b5⟩
                      have t5 := t4.later (((Below.refl _ _).drew).trans b5)
                      have hpl4 := tp.len_eq
                      rw [length_low] at hpl4
                      have hpl5 : pl ≤ 4 := by omega
                      clear hpl4
                      have x5 := t5.c3
                      refine hK _ _ ?_
                      clear hK K
                      refine wpAnyIn_ready (rs := [5]) (by kernel_rfl) (by simp) ?_
                      refine AllReadyIn.cons rfl (fun K hK => ?_) ?_
                      ·
                        refine step_gr_in rfl (.tmp 41) (.tmp 45) rfl (w.heap.size + 7) lo ln lc _ rfl t5.gl po pl pc _ rfl tp (by omega) ?_
                        intro lo6 ln6 lc6 W6 hn6 g6 m6
                        have x6 := (t5.at3 m6).1
                        have y6 := (t5.at3 m6).2
                        refine hK _ _ ?_
                        clear hK K
                        refine wpAnyIn_ready (rs := [6]) (by kernel_rfl) (by simp) ?_
                        refine AllReadyIn.cons rfl (fun K hK => ?_) ?_
                        ·
                          go_simp
                          refine hK _ _ ?_
                          clear hK K
                          refine wpAnyIn_done (by kernel_rfl) ?_ _
                          have t6 := t5.put3 g6 m6
                          have k6 := (((k4.trans (ko_below (((Below.refl _ _).drew).trans b5))).trans (ko_off m6.off (gr_cells t5.gl))).trans (KeepsOthers.setCell W6 ⟨w.heap.size + 3, 0, none⟩ (.slice lo6 ln6 lc6)))
                          clear x6 y6 x5 x3 m6 g6 t5
                          generalize W6.setCell ⟨w.heap.size + 3, 0, none⟩ (.slice lo6 ln6 lc6) = V6 at t6 k6 ⊢
                          have b6 : Below w.heap.size w V6 := b1.trans ((ht.kp.trans t6.kp).below (by omega) (by simp))
                          have g06 := cell_later b6 g0
                          have x4 := t6.c4
                          have y4 := t6.z4
                          have t7 := t6.put4 te hele
                          have hbn4 := hn4.out
                          have hend : Hid (KeepsOthers W (V6.setCell ⟨w.heap.size + 4, 0, none⟩ (.slice eo el ec)) ∧ TI w m (js ++ [i]) W1 (V6.setCell ⟨w.heap.size + 4, 0, none⟩ (.slice eo el ec)) bo4 bn4 bc4 lo6 ln6 lc6 eo el ec ∧ Kept (w.heap.size + 7) [w.heap.size, w.heap.size + 1, w.heap.size + 2, w.heap.size + 3, w.heap.size + 4] W (V6.setCell ⟨w.heap.size + 4, 0, none⟩ (.slice eo el ec))) :=
                            ⟨k6.trans (KeepsOthers.setCell _ _ _), ⟨⟨t7.c0, t7.c1, t7.c2, t7.c3, t7.c4, t7.z0, t7.z1, t7.z2, t7.z3, t7.z4, by rw [hbs]; exact t7.gb, by rw [hls]; exact t7.gl, t7.dis, by rw [hlast.out]; exact t7.tk, t7.kle, ht.kp.trans t7.kp⟩, hyes, by rw [List.length_append, List.length_singleton]; omega⟩, t7.kp⟩
                          clear t7 k6 hbn4
                          gi_wp2
                          exact ⟨hend.out.1, hend.out.2.2, bo4, bn4, bc4, lo6, ln6, lc6, eo, el, ec, by rw [hjs.out.1]; exact hend.out.2.1⟩
                        exact AllReadyIn.nil
                      exact AllReadyIn.nil
                    exact AllReadyIn.nil
                  refine AllReadyIn.cons rfl (fun K hK => ?_) ?_
                  ·
                    go_simp
                    refine ⟨trivial, (inr l hput).mono ?_⟩
                    rintro e W5 ⟨po, pl, pc, rfl, tp, b5⟩
                    have t5 := t4.later (((Below.refl _ _).drew).trans b5)
                    have hpl4 := tp.len_eq
                    rw [length_low] at hpl4
                    have hpl5 : pl ≤ 4 := by omega
                    clear hpl4
                    have x5 := t5.c3
                    refine hK _ _ ?_
                    clear hK K
                    refine wpAnyIn_ready (rs := [0]) (by kernel_rfl) (by simp) ?_
                    refine AllReadyIn.cons rfl (fun K hK => ?_) ?_
                    ·
                      go_simp
                      refine hK _ _ ?_
                      clear hK K
                      refine wpAnyIn_ready (rs := [5]) (by kernel_rfl) (by simp) ?_
                      refine AllReadyIn.cons rfl (fun K hK => ?_) ?_
                      ·
                        refine step_gr_in rfl (.tmp 41) (.tmp 45) rfl (w.heap.size + 7) lo ln lc _ rfl t5.gl po pl pc _ rfl tp (by omega) ?_
                        intro lo6 ln6 lc6 W6 hn6 g6 m6
                        have x6 := (t5.at3 m6).1
                        have y6 := (t5.at3 m6).2
                        refine hK _ _ ?_
                        clear hK K
                        refine wpAnyIn_ready (rs := [6]) (by kernel_rfl) (by simp) ?_
                        refine AllReadyIn.cons rfl (fun K hK => ?_) ?_
                        ·
                          go_simp
                          refine hK _ _ ?_
                          clear hK K
                          refine wpAnyIn_done (by kernel_rfl) ?_ _
                          have t6 := t5.put3 g6 m6
                          have k6 := (((k4.trans (ko_below (((Below.refl _ _).drew).trans b5))).trans (ko_off m6.off (gr_cells t5.gl))).trans (KeepsOthers.setCell W6 ⟨w.heap.size + 3, 0, none⟩ (.slice lo6 ln6 lc6)))
                          clear x6 y6 x5 x3 m6 g6 t5
                          generalize W6.setCell ⟨w.heap.size + 3, 0, none⟩ (.slice lo6 ln6 lc6) = V6 at t6 k6 ⊢
                          have b6 : Below w.heap.size w V6 := b1.trans ((ht.kp.trans t6.kp).below (by omega) (by simp))
                          have g06 := cell_later b6 g0
                          have x4 := t6.c4
                          have y4 := t6.z4
                          have t7 := t6.put4 te hele
                          have hbn4 := hn4.out
                          have hend : Hid (KeepsOthers W (V6.setCell ⟨w.heap.size + 4, 0, none⟩ (.slice eo el ec)) ∧ TI w m (js ++ [i]) W1 (V6.setCell ⟨w.heap.size + 4, 0, none⟩ (.slice eo el ec)) bo4 bn4 bc4 lo6 ln6 lc6 eo el ec ∧ Kept (w.heap.size + 7) [w.heap.size, w.heap.size + 1, w.heap.size + 2, w.heap.size + 3, w.heap.size + 4] W (V6.setCell ⟨w.heap.size + 4, 0, none⟩ (.slice eo el ec))) :=
                            ⟨k6.trans (KeepsOthers.setCell _ _ _), ⟨⟨t7.c0, t7.c1, t7.c2, t7.c3, t7.c4, t7.z0, t7.z1, t7.z2, t7.z3, t7.z4, by rw [hbs]; exact t7.gb, by rw [hls]; exact t7.gl, t7.dis, by rw [hlast.out]; exact t7.tk, t7.kle, ht.kp.trans t7.kp⟩, hyes, by rw [List.length_append, List.length_singleton]; omega⟩, t7.kp⟩
                          clear t7 k6 hbn4
                          gi_wp2
                          exact ⟨hend.out.1, hend.out.2.2, bo4, bn4, bc4, lo6, ln6, lc6, eo, el, ec, by rw [hjs.out.1]; exact hend.out.2.1⟩
                        exact AllReadyIn.nil
                      exact AllReadyIn.nil
                    exact AllReadyIn.nil
                  exact AllReadyIn.nil
                exact AllReadyIn.nil
              exact AllReadyIn.nil
            exact AllReadyIn.nil
    case done =>
      rintro D ys W hD rfl ⟨bo, bn, bc, lo, ln, lc, ko, kl, kc, ht, hok, hble⟩ hK
      have hnb : (len + 7) / 8 = nbl m := by unfold nbl; rw [hlen]
      have hmap : (List.range ((len + 7) / 8)).map (clT len) = List.range (nbl m) := by
        rw [hnb]
        refine List.ext_getElem (by simp) (fun i h1 h2 => ?_)
        simp at h1
        simp [clT_id (len := len) (i := i) (by omega)]
      rw [hmap] at ht hok hble
      rw [catT_all] at hok
      have hmay : mayB 65535 m = true := (mayB_iff _ _).2 ⟨by omega, by omega, hok⟩
      have hll := ht.gl.len
      rw [lensT_length, List.length_range] at hll
      rw [List.length_range] at hble
      have hbl := ht.gb.len
      have hnb1 : 1 ≤ nbl m ∧ nbl m ≤ 8192 := by omega
      have x3 := ht.c3
      have hq4 : ((ln : Nat) : Int).tdiv 4 = (nbl m : Int) := by rw [Int.tdiv_eq_ediv_of_nonneg (by omega)]; omega
      have hwr : IntKind.u64.wrap (nbl m : Int) = nbl m := by rw [IntKind.wrap_u64]; omega
      have hwb : IntKind.u64.wrap (bn : Int) = bn := by rw [IntKind.wrap_u64]; omega
      have hput1 := put_any none 0 0 (nbl m : Int) 2 [] W (Tx.nil _) (by omega) (by omega) (by omega) (by omega) (by omega)
      rw [show clampN 2 = 2 from rfl, List.nil_append] at hput1
      have hput2 := fun (V : World) => put_any none 0 0 (bn : Int) 4 [] V (Tx.nil _) (by omega) (by omega) (by omega) (by omega) (by omega)
      rw [show clampN 4 = 4 from rfl, List.nil_append] at hput2
      have htab : tableL m = [bodyT m (List.range (nbl m)), low 2 (nbl m : Int), lensT m (List.range (nbl m)), low 4 (bn : Int), [109, 97, 114, 105]].flatten := by
        simp [tableL, tailT, hbl]
      generalize nbl m = nb at *
      generalize bodyT m (List.range nb) = X at *
      generalize lensT m (List.range nb) = Y at *
      clear hmap hnb
      gi_wp2_with fail
      refine ⟨trivial, ?_⟩
      refine (callsIn_wide.2 hput1).mono ?_
      rintro e W2 ⟨p1o, p1l, p1c, rfl, tp1, b2⟩
      have hp2 := hput2 W2
      have t2 := ht.later b2
      have x22 := t2.c2
      gi_wp2_with fail
      refine ⟨trivial, ?_⟩
      refine (callsIn_wide.2 hp2).mono ?_
      rintro e W3 ⟨p2o, p2l, p2c, rfl, tp2, b3⟩
      have t3 := t2.later b3
      have x32 := t3.c2
      have x33 := t3.c3
      have bM : Below W3.heap.size W3 (W3.alloc (.cells #[.int .u8 109, .int .u8 97, .int .u8 114, .int .u8 105] 5)) := (Below.refl _ _).alloc (Nat.le_refl _) _
      have tp13 := tp1.later b3
      gi_wp2_with (with_reducible show wpListIn _ _ _ _ _ (⟨some 68, _, _, _, _, _⟩ :: _) _ _; refine wpListIn_convs rfl _ rfl W3 W3.heap.size #[.int .u8 109, .int .u8 97, .int .u8 114, .int .u8 105] [109, 97, 114, 105] 4 rfl rfl rfl rfl rfl (by omega) (by decide) ?_; intro W4 t4 b4)
      have t3w := t3.later b4
      have hrows := lx_rows W4 [.slice bo bn bc, .slice p1o p1l p1c, .slice lo ln lc, .slice p2o p2l p2c, .slice (some ⟨W3.heap.size, 0, none⟩) 4 4] [X, low 2 (nb : Int), Y, low 4 (bn : Int), [109, 97, 114, 105]] 5 rfl rfl (by omega) (fun j v xs hv hxs => by
        match j, hv, hxs with
        | 0, hv, hxs => cases hv; cases hxs; exact (t3w.gb.tx).at [] (by simp)
        | 1, hv, hxs => cases hv; cases hxs; exact (tp13.later b4).at [] (by simp)
        | 2, hv, hxs => cases hv; cases hxs; exact (t3w.gl.tx).at [] (by simp)
        | 3, hv, hxs => cases hv; cases hxs; exact (tp2.later b4).at [] (by simp)
        | 4, hv, hxs => cases hv; cases hxs; exact t4.at [] (by simp)
        | j + 5, hv, hxs => simp at hv)
      have hYl := t3w.gl.len
      have hcat := concat_far _ 5 5 _ _ hrows (by rw [← htab]; simp [htab, length_low]; omega) (by omega) (by omega)
      rw [← htab] at hcat
      have bA : Below W4.heap.size W4 (W4.alloc (.cells #[.slice bo bn bc, .slice p1o p1l p1c, .slice lo ln lc, .slice p2o p2l p2c, .slice (some ⟨W3.heap.size, 0, none⟩) 4 4] 23)) := (Below.refl _ _).alloc (Nat.le_refl _) _
      refine ⟨trivial, ?_⟩
      refine (callsIn_wide.2 hcat).mono ?_
      rintro e W5 ⟨ro, rl, rc, rfl, tr, rfar, b5⟩
      have b45 : Below W4.heap.size W4 W5 := bA.trans (b5.mono bA.size)
      have t5 := t3w.later b45
      have y0 := t5.c0
      have y1 := t5.c1
      have z0 := t5.z0
      have z1 := t5.z1
      have B5 : Below w.heap.size w W5 := b1.trans (t5.kp.below (by omega) (by simp))
      have hDk : W5.heap[D]? = some (.deferred (some [])) := by
        have hDW := (Array.getElem?_eq_some_iff.1 hK).1
        have h25 : Below W.heap.size W W5 := ((b2.trans (b3.mono b2.size)).trans ((b4.mono (b2.trans (b3.mono b2.size)).size))).trans (b45.mono ((b2.trans (b3.mono b2.size)).trans ((b4.mono (b2.trans (b3.mono b2.size)).size))).size)
        rw [h25.block D hDW]; exact hK
      have q0 : ((W5.setCell ⟨w.heap.size, 0, none⟩ (.slice ro rl rc)).setCell ⟨w.heap.size + 1, 0, none⟩ (.int .i64 0)).cell? ⟨w.heap.size, 0, none⟩ = some (.slice ro rl rc) := by rw [World.cell?_setCell_other _ _ _ _ (by simp)]; exact World.cell?_setCell_same _ _ _ y0
      have q1 : ((W5.setCell ⟨w.heap.size, 0, none⟩ (.slice ro rl rc)).setCell ⟨w.heap.size + 1, 0, none⟩ (.int .i64 0)).cell? ⟨w.heap.size + 1, 0, none⟩ = some (.int .i64 0) := World.cell?_setCell_same _ _ _ (by rw [World.cell?_setCell_other _ _ _ _ (by simp)]; exact y1)
      have O7 : Off [w.heap.size, w.heap.size + 1] W5 ((W5.setCell ⟨w.heap.size, 0, none⟩ (.slice ro rl rc)).setCell ⟨w.heap.size + 1, 0, none⟩ (.int .i64 0)) := Off.setCell (Off.setCell (Off.refl _ _) (p := ⟨w.heap.size, 0, none⟩) (by simp) _) (p := ⟨w.heap.size + 1, 0, none⟩) (by simp) _
      have hK7 : ((W5.setCell ⟨w.heap.size, 0, none⟩ (.slice ro rl rc)).setCell ⟨w.heap.size + 1, 0, none⟩ (.int .i64 0)).heap[D]? = some (.deferred (some [])) := by
        rw [O7.block D (Array.getElem?_eq_some_iff.1 hDk).1 (by simp; omega)]; exact hDk
      have B7 := B5.trans (O7.below (by simp) B5.size)
      have tr7 := tr.off O7 (fun ad ha h0 hk => by
        have h1 := rfar ad ha h0
        have h2 := t3w.gb.hB
        simp at h1
        simp at hk
        omega)
      gi_wp2_with fail
      generalize (W5.setCell ⟨w.heap.size, 0, none⟩ (.slice ro rl rc)).setCell ⟨w.heap.size + 1, 0, none⟩ (.int .i64 0) = V7 at q0 q1 hK7 B7 tr7 ⊢
      refine ⟨by simp, .inl ⟨_, _, rfl, run_takeDeferred hK7, ?_⟩⟩
      have hr : ∀ r, some D = some r → ∃ o : Obj, V7.heap[r]? = some o ∧ o.isCells = false := fun r e => by cases e; exact ⟨_, hK7, rfl⟩
      have q0' := cell_kept q0 (grownBy_putObj' V7 D (.deferred none)) hr
      have q1' := cell_kept q1 (grownBy_putObj' V7 D (.deferred none)) hr
      have bq := B7.grown (grownBy_putObj' V7 D (.deferred none)) B7.size (fun r e => by cases e; omega)
      have trq : Tx (V7.putObj D (.deferred none)) ro rl rc (tableL m) := ⟨tr7.len_eq, tr7.le, tr7.top, tr7.bare, fun ad ha j hj => cell_kept (tr7.cell ad ha j hj) (grownBy_putObj' V7 D (.deferred none)) hr, tr7.rng⟩
      refine ⟨.tuple #[.slice ro rl rc, .int .i64 0], ?_, .inl ⟨hmay, ro, rl, rc, rfl, trq, bq⟩⟩
      simp [results, Try.results17, go_sem, q0', q1']
    case stop =>
      rintro D c pre W hD ⟨k, hk, rfl⟩ ⟨rfl, hx⟩ hK
      have hno : mayB 65535 m = false := by
        have h1 := hx.no
        have h2 : (List.range k).map (clT len) = List.range k := by
          refine List.ext_getElem (by simp) (fun i h1 h2 => ?_)
          simp at h1
          simp [clT_id (len := len) (i := i) (by omega)]
        rw [h2, catT_range] at h1
        cases hy : mayB 65535 m with
        | false => rfl
        | true =>
          have h3 := ((mayB_iff _ _).1 hy).2.2
          rw [← List.take_append_drop (8 * k) m, okL_app, h1] at h3
          simp at h3
      gi_wp2_with fail
      refine ⟨by simp, .inl ⟨_, _, rfl, run_takeDeferred hK, ?_⟩⟩
      have hr : ∀ r, some D = some r → ∃ o : Obj, W.heap[r]? = some o ∧ o.isCells = false := fun r e => by cases e; exact ⟨_, hK, rfl⟩
      have q0 := cell_kept hx.c0 (grownBy_putObj' W D (.deferred none)) hr
      have q1 := cell_kept hx.c1 (grownBy_putObj' W D (.deferred none)) hr
      have bq := hx.bel.grown (grownBy_putObj' W D (.deferred none)) hx.bel.size (fun r e => by cases e; omega)
      refine ⟨.tuple #[.slice none 0 0, .int .i64 1], ?_, .inr ⟨hno, rfl, bq⟩⟩
      simp [results, Try.results17, go_sem, q0, q1]
end Go.Proofs.Yteeemfohehpaeaa
