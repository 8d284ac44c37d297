/- The walk of slices.DeleteFunc at Range's own test: entries are moved together in their own row, the rest is cleared. -/
import Derived.Test.YteeemfohehpaeaaTDel
import Derived.Test.YteeemfohehpaeaaBLaw
import Derived.Test.YteeemfohehpaeaaBWalksB
namespace Go.Proofs.Yteeemfohehpaeaa
set_option maxRecDepth 100000
open Go.RowKit Go.Sort

theorem REx.st2 (g : Nat) {w w' : World} {u : List Value} {e : Ent} (h : RE w [g] u e) (ho : Off [g] w w') : RE w' [g] u e := RE.stable _ _ _ _ _ _ h ho (fun _ hk => .inl hk)
/-- A list in the row g, its texts elsewhere: it is read, and may be written. -/
structure RQ (w : World) (g n cap : Nat) (es : List Ent) : Prop where
  len_eq : es.length = n
  le : n ≤ cap
  top : cap ≤ maxLen
  cell : ∀ (j : Nat) (e : Ent), es[j]? = some e → ∃ u : List Value, w.rangeAt g (j * 3) u ∧ RE w [g] u e
  th : w.there g 0 (n * 3)
theorem RQ.of_ls {w : World} {B n cap g : Nat} {es : List Ent} (h : Ls 25 3 RE w B (.slice (some ⟨g, 0, none⟩) n cap) es) : RQ w g n cap es := by
  have hg : g ∈ own (.slice (some ⟨g, 0, none⟩) n cap) := by simp [own, Value.ownBlock]
  obtain ⟨us, h1, h2, h3⟩ := h
  obtain ⟨hl, h4⟩ := h2
  rcases h4 with ⟨h', _⟩ | ⟨g', c, cur, h', hb, hgc, hn, hm, hs, ht⟩
  · cases h'
  · simp only [Value.slice.injEq, Option.some.injEq, Addr.mk.injEq, and_true] at h'
    obtain ⟨rfl, e2, rfl⟩ := h'
    have hu : ∀ u ∈ us, u.length = 3 := by
      intro u hu
      obtain ⟨i, hi, rfl⟩ := List.getElem_of_mem hu
      exact (RE.plain _ _ _ _ (h3 i us[i] (es[i]'(by omega)) (by simp) (by simp))).1
    refine ⟨by omega, by omega, hm, fun j e he => ?_, fun j hj => ⟨?_, frozen_of_row w g _ _ 25 hgc⟩⟩
    · have hj := (List.getElem?_eq_some_iff.1 he).1
      have hju : us[j]? = some (us[j]'(by omega)) := by simp
      refine ⟨_, fun i x hx => ?_, RE.stable _ _ _ _ _ _ (h3 j _ e hju he) (.refl _ _) (fun k hk => .inl (by simp at hk; subst hk; exact hg))⟩
      have hi := (List.getElem?_eq_some_iff.1 hx).1
      rw [hu _ (List.getElem_mem _)] at hi
      have hlt : j * 3 + i < es.length * 3 := by omega
      have hfl := flat_at us j i _ hu hju hi
      rw [hx, ← ht, List.getElem?_take, if_pos hlt] at hfl
      rw [cell_of_row w g _ cur 25 (0, 0) hgc]
      simpa using hfl
    · rw [cell_of_row w g _ cur 25 (0, 0) hgc]
      simp; omega
theorem RQ.later {w w' : World} {g n cap : Nat} {es : List Ent} (h : RQ w g n cap es) (hb : Below w.heap.size w w') : RQ w' g n cap es :=
  ⟨h.len_eq, h.le, h.top, fun j e he => by
    obtain ⟨u, h1, h2⟩ := h.cell j e he
    exact ⟨u, fun i x hx => cell_later hb (h1 i x hx), RE.stable _ _ _ _ _ _ h2 (.of_below hb) (fun _ hk => .inl hk)⟩, there_on h.th hb⟩
theorem RQ.ent {w : World} {g n cap : Nat} {es : List Ent} (h : RQ w g n cap es) (j : Nat) (e : Ent) (he : es[j]? = some e) : ∃ ko kl kc vo vl vc, w.cell? ⟨g, j * 3, none⟩ = some (.slice ko kl kc) ∧ w.cell? ⟨g, j * 3 + 1, none⟩ = some (.slice vo vl vc) ∧ w.cell? ⟨g, j * 3 + 2, none⟩ = some (.bool e.g) ∧ Tx w ko kl kc e.k ∧ RE w [g] [.slice ko kl kc, .slice vo vl vc, .bool e.g] e := by
  obtain ⟨u, h1, h2⟩ := h.cell j e he
  obtain ⟨k, v, rfl, h3, h4⟩ := id h2
  obtain ⟨ko, kl, kc, rfl, tk, _⟩ := id h3
  obtain ⟨vo, vl, vc, rfl, _, _⟩ := id h4
  exact ⟨ko, kl, kc, vo, vl, vc, by simpa using h1 0 _ rfl, h1 1 _ rfl, h1 2 _ rfl, tk, h2⟩
theorem RQ.put {w : World} {g n cap k : Nat} {es : List Ent} (h : RQ w g n cap es) (hk : k < n) (u : List Value) (e : Ent) (hu : RE w [g] u e) : RQ (w.setCells g (k * 3) u) g n cap (es.set k e) := by
  have ho := off_cells g u (k * 3) w
  have hl := h.len_eq
  have hu3 := (RE.plain _ _ _ _ hu).1
  refine ⟨by simpa using hl, h.le, h.top, fun j x hx => ?_, World.there_setCells h.th g (k * 3) u⟩
  by_cases hjk : k = j
  · subst hjk
    have hxe : x = e := by
      rw [List.getElem?_set_self (by omega)] at hx
      exact (Option.some.inj hx).symm
    subst hxe
    have hr := World.rangeAt_setCells_same w g (k * 3) u (fun i hi => by
      have := h.th (k * 3 + i) (by omega)
      rwa [Nat.zero_add] at this)
    exact ⟨u, hr, REx.st2 g hu ho⟩
  · rw [List.getElem?_set_ne hjk] at hx
    obtain ⟨u', c1, c2⟩ := h.cell j x hx
    have hu3' := (RE.plain _ _ _ _ c2).1
    exact ⟨u', World.rangeAt_setCells_apart c1 g (k * 3) u (by omega), REx.st2 g c2 ho⟩
/-- The store of an entry in its place. -/
theorem wpList_putQ {ops : Array Oper} {rest : List Oper} {o : Oper} {a : Act} {w : World} {Q : Exit → Act → World → Prop}
    (hg : o.guard = none) (x y : Operand) (hop : o.op = .store 25 x y) (g n cap k : Nat) (A C D : Value) (es : List Ent) (e : Ent) (hx : a.eval x = .pointer (some ⟨g, k * 3, none⟩)) (hy : a.eval y = .agg #[A, C, D])
    (h : RQ w g n cap es) (hk : k < n) (hu : RE w [g] [A, C, D] e)
    (hK : ∀ w', RQ w' g n cap (es.set k e) → Off [g] w w' → wpList Try.prog ops Q rest (a.put o.dst undef) w') : wpList Try.prog ops Q (o :: rest) a w := by
  refine wpList_store_mid hg 25 x y hop g (k * 3) _ hx hy (fun j hj => ?_) info25s ?_ ?_
  · have := h.th (k * 3 + j) (by simp at hj; omega)
    rwa [Nat.zero_add] at this
  · have hp := (RE.plain _ _ _ _ hu).2
    simp [hp A (by simp), hp C (by simp), hp D (by simp)]
  · exact hK _ (h.put hk [A, C, D] e hu) (off_cells g _ _ w)
theorem RQ.lx {w : World} {g n cap : Nat} {es : List Ent} (h : RQ w g n cap es) : Lx 3 RE w (some ⟨g, 0, none⟩) n cap es :=
  ⟨h.len_eq, h.le, h.top, fun h => (by cases h), fun ad ha j e he => by
    cases ha
    obtain ⟨u, h1, h2⟩ := h.cell j e he
    exact ⟨u, fun i x hx => by rw [Addr.add_lit, Nat.zero_add]; exact h1 i x hx, RE.stable _ _ _ _ _ _ h2 (.refl _ _) (by simp)⟩⟩

theorem zero_cells (c : Nat) : ∃ zs : List Value, (Builtin.zeroCells (Value.agg #[.slice none 0 0, .slice none 0 0, .bool false]).cells c).toList = zs ∧ zs.length = c * 3 ∧ ∀ v ∈ zs, v.oneCell' = true := by
  refine ⟨_, rfl, ?_, fun v hv => ?_⟩
  · rw [Array.length_toList, size_zeroCells]; rfl
  · simp only [Builtin.zeroCells, Array.toList_map, List.mem_map] at hv
    obtain ⟨i, _, rfl⟩ := hv
    have hs : (Value.agg #[.slice none 0 0, .slice none 0 0, .bool false]).cells = #[.slice none 0 0, .slice none 0 0, .bool false] := rfl
    rw [hs]
    have h3 : i % 3 < 3 := by omega
    show (#[Value.slice none 0 0, .slice none 0 0, .bool false][i % 3]!).oneCell' = true
    match i % 3, h3 with
    | 0, _ => rfl
    | 1, _ => rfl
    | 2, _ => rfl
    | k + 3, h => omega
theorem run_clearQ (w : World) (ty : TypeId) (g n cap i : Nat) (es : List Ent) (h : RQ w g n cap es) (hi : i ≤ n) (c : Nat) :
    ∃ w', (Builtin.clear_ #[22] ty #[.slice (some ⟨g, i * 3, none⟩) (n - i) c]).run Try.prog w = .ok (.tuple #[]) w' ∧ Lx 3 RE w' (some ⟨g, 0, none⟩) i cap (es.take i) ∧ Off [g] w w' := by
  obtain ⟨zs, h1, h2, h3⟩ := zero_cells (n - i)
  have hst := run_storeCells_cells (P := Try.prog) g (i * 3) zs 0 w (fun j hj => by have := (h.th (i * 3 + j) (by omega)).1; rwa [Nat.zero_add] at this) (fun j hj => by have := (h.th (i * 3 + j) (by omega)).2; rwa [Nat.zero_add] at this) h3
  simp only [Nat.add_zero] at hst
  have ho := off_cells g zs (i * 3) w
  refine ⟨w.setCells g (i * 3) zs, ?_, ?_, ho⟩
  · obtain ⟨i0, hi0, hz0, hz1, hz2⟩ := info_parts Try.info25
    by_cases h0 : n - i = 0
    · rw [h0] at h2 ⊢
      have hz : zs = [] := List.eq_nil_of_length_eq_zero (by omega)
      subst hz
      simp [Builtin.clear_, run_underlying Try.underlying22]
      rfl
    · obtain ⟨q, hq⟩ : ∃ q, n - i = q + 1 := ⟨n - i - 1, by omega⟩
      rw [hq] at h1 ⊢
      simp [Builtin.clear_, run_underlying Try.underlying22, hst, h1]
  · have hl := h.len_eq
    have hle := h.le
    refine ⟨by simp; omega, by omega, h.top, fun h => (by cases h), fun ad ha j e he => ?_⟩
    cases ha
    rw [List.getElem?_take] at he
    split at he
    · obtain ⟨u, c1, c2⟩ := h.cell j e he
      have hu3 := (RE.plain _ _ _ _ c2).1
      have := World.rangeAt_setCells_apart c1 g (i * 3) zs (by omega)
      exact ⟨u, fun q x hx => by rw [Addr.add_lit, Nat.zero_add]; exact this q x hx, RE.stable _ _ _ _ _ _ (REx.st2 g c2 ho) (.refl _ _) (by simp)⟩
    · cases he

theorem filt_snoc (fs ts : List Int) (es : List Ent) (j : Nat) (e : Ent) (h : es[j]? = some e) : (es.take (j + 1)).filter (fun e => !delK fs ts e.k) = (es.take j).filter (fun e => !delK fs ts e.k) ++ (if delK fs ts e.k = true then [] else [e]) := by
  rw [take_snoc es j e h, List.filter_append]
  cases hd : delK fs ts e.k <;> simp [hd]

set_option maxHeartbeats 4000000 in
theorem delf_any (B : Nat) (ao : Option Addr) (n cap : Nat) (es : List Ent) (w w0 : World) (pf pt : Nat) (fs ts : List Int) (h : Ls 25 3 RE w B (.slice ao n cap) es) (hn : n = es.length) (he : Ends w0 pf pt fs ts) (hB0 : w0.heap.size ≤ B) (hw : Below w0.heap.size w0 w) (hBw : B ≤ w.heap.size) (sk : ∀ e ∈ es, e.k.length ≤ 1000000000) (hn9 : n ≤ 900000000) :
    Calls Try.prog 49 #[.slice ao n cap, .func (.func 50) #[] #[.pointer (some ⟨pf, 0, none⟩), .pointer (some ⟨pt, 0, none⟩)]] w fun e w' => ∃ bo lb cb, e = .returned (.slice bo lb cb) ∧ Lx 3 RE w' bo lb cb (es.filter (fun e => !delK fs ts e.k)) ∧ Below B w w' := by
  have hx : Lx 3 RE w ao n cap es := by
    obtain ⟨ao9, cap9, e9, hx9⟩ := h.read RE.stable RE.plain
    simp only [Value.slice.injEq] at e9
    obtain ⟨rfl, e10, rfl⟩ := e9
    rw [← e10] at hx9
    exact hx9
  have hel := hn.symm
  clear hn
  have hew := he.later hw
  have hidx := indexf_any ao n cap es pf pt fs ts w hx hew sk
  go_enter Try.func49, Try.ntmps49
  go_wp2_with fail
  with_reducible refine hidx.mono ?_
  clear hidx
  rintro e W1 ⟨⟨i, x, rfl, hi, hdel, hbef⟩ | ⟨rfl, hall⟩, b1⟩
  rotate_left
  · have hfl : Hid (es.filter (fun e => !delK fs ts e.k) = es) := List.filter_eq_self.2 (fun y hy => by simp [hall y hy])
    have hx1 := hx.later RE.stable b1
    go_wp2
    go_ret
    exact ⟨ao, n, cap, rfl, by rw [hfl.out]; exact hx1, b1.mono hBw⟩
  · have hin : i < es.length := (List.getElem?_eq_some_iff.1 hi).1
    obtain ⟨g, rfl, hgB⟩ : ∃ g, ao = some ⟨g, 0, none⟩ ∧ B ≤ g := by
      obtain ⟨us, h1, h2, h3⟩ := h
      rcases h2.2 with ⟨h', h0⟩ | ⟨g, c, cur, h', hb, _⟩
      · omega
      · simp only [Value.slice.injEq] at h'
        exact ⟨g, h'.1, hb⟩
    have hq := RQ.of_ls h
    have hfi : (es.take i).filter (fun e => !delK fs ts e.k) = es.take i := List.filter_eq_self.2 (fun y hy => by simp [hbef y hy])
    have hstart : Hid (es.take i = (es.take (i + 1)).filter (fun e => !delK fs ts e.k)) := by show _ = _; rw [filt_snoc fs ts es i x hi, hfi, hdel]; simp
    have hq1 := hq.later b1
    have hle := hq.le
    have htop := hq.top
    unfold maxLen at htop
    have hgw : g < w.heap.size := by
      have h1 := h.lt g (by simp [own, Value.ownBlock])
      exact h1.1
    clear hfi hdel hbef hi h hx
    go_wp2
    go_loopw [5, 6, 7] (fun s5 s6 _ wr => ∃ (i j : Nat) (cs : List Ent), i < j ∧ j ≤ n ∧ s5 = .int .i64 i ∧ s6 = .int .i64 j ∧ RQ wr g n cap cs ∧ Hid (cs.take i = (es.take j).filter (fun e => !delK fs ts e.k)) ∧ Hid (cs.drop j = es.drop j) ∧ Below B w wr ∧ Below w0.heap.size w0 wr) (fun _ s6 _ _ => n - (intOf s6).toNat)
    case atStart => exact ⟨i, i + 1, es, by omega, by omega, rfl, by go_num, hq1, hstart, rfl, b1.mono hBw, hw.trans (b1.mono hw.size)⟩
    case round =>
      obtain ⟨i, j, cs, hij, hj, rfl, rfl, hqr, htk, hdr, hb, hw0⟩ := hrel
      have hcl := hqr.len_eq
      by_cases hj2 : j < n
      · have hxj : es[j]? = some (es[j]'(by omega)) := by simp
        have hcj : cs[j]? = some (es[j]'(by omega)) := by
          have h1 := congrArg (fun l => l[0]?) hdr.out
          simp only [List.getElem?_drop, Nat.add_zero] at h1
          rw [h1]; exact hxj
        obtain ⟨ko, kl, kc, vo, vl, vc, c0, c1, c2, tk, hre⟩ := hqr.ent j _ hcj
        have hsk := sk _ (List.getElem_mem (l := es) (n := j) (by omega))
        have hsnoc := filt_snoc fs ts es j _ hxj
        generalize es[j]'(by omega) = x at hxj hcj c2 tk hre hsk hsnoc
        rw [tk.len_eq] at hsk
        have hdrop : Hid (cs.drop (j + 1) = es.drop (j + 1)) := by
          show _ = _
          have h1 := congrArg (List.drop 1) hdr.out
          simpa [List.drop_drop] using h1
        obtain ⟨G, hG⟩ : ∃ G, Hid (x.g = G) := ⟨_, rfl⟩
        rw [hG.out] at c2 hre
        have bA : Below wr.heap.size wr (wr.alloc (.cells #[.slice ko kl kc, .slice vo vl vc, .bool G] 25)) := (Below.refl _ _).alloc (Nat.le_refl _) _
        have bx := Box.new wr (.slice ko kl kc) (.slice vo vl vc) G
        have heA := (he.later hw0).later bA
        have hd := del_any pf pt fs ts ko kl kc (.slice vo vl vc) G x.k _ rfl heA (tk.later bA) hsk
        have hqA := hqr.later bA
        have hreA : RE (wr.alloc (.cells #[.slice ko kl kc, .slice vo vl vc, .bool G] 25)) [g] [.slice ko kl kc, .slice vo vl vc, .bool G] x := RE.stable _ _ _ _ _ _ hre (.of_below bA) (fun _ hk => .inl hk)
        have bBA : Below B w (wr.alloc (.cells #[.slice ko kl kc, .slice vo vl vc, .bool G] 25)) := hb.trans (bA.mono (Nat.le_trans hBw hb.size))
        have bW0A := hw0.trans (bA.mono hw0.size)
        have hsnH : Hid ((es.take (j + 1)).filter (fun e => !delK fs ts e.k) = (es.take j).filter (fun e => !delK fs ts e.k) ++ (if delK fs ts x.k = true then [] else [x])) := hsnoc
        have hjI : (j : Int) < n := by omega
        clear hxj hcj hsnoc hre
        go_wp2_with fail
        generalize wr.alloc (.cells #[.slice ko kl kc, .slice vo vl vc, .bool G] 25) = W2 at bA bx hd hqA hreA bBA bW0A ⊢
        obtain ⟨y0, y1, y2⟩ := bx
        cases hF : delK fs ts x.k with
        | true =>
          rw [hF] at hd hsnH
          go_wp2_with (go_at_call 50; with_reducible refine hd.mono ?_; rintro e' V ⟨rfl, bV⟩)
          go_roundw
          case rel => refine ⟨_, _, _, _, _, _, _, _, _, _, _, _, _, _, _, _, _, _, _, _, _, _, _, ⟨i, j + 1, cs, by omega, by omega, rfl, by go_num, hqA.later bV, by show _ = _; rw [hsnH.out]; simpa using htk.out, hdrop, bBA.trans (bV.mono (Nat.le_trans hBw bBA.size)), bW0A.trans (bV.mono bW0A.size)⟩, rfl⟩
          case measure => simp [intOf]; omega
        | false =>
          rw [hF] at hd hsnH
          have hiI : (i : Int) < n := by omega
          go_wp2_with fail
          with_reducible refine hd.mono ?_
          clear hd
          rintro e' V ⟨rfl, bV⟩
          have hqV := hqA.later bV
          have z0 := cell_later bV y0
          have z1 := cell_later bV y1
          have z2 := cell_later bV y2
          have hreV : RE V [g] [.slice ko kl kc, .slice vo vl vc, .bool G] x := RE.stable _ _ _ _ _ _ hreA (.of_below bV) (fun _ hk => .inl hk)
          have hin2 : i < n := by omega
          have htk2 : Hid ((cs.set i x).take i = cs.take i) := by show _ = _; rw [List.take_set]; exact List.set_eq_of_length_le (by simp; omega)
          clear hqA y0 y1 y2 hreA
          go_wp2_with (with_reducible show wpList _ _ _ (⟨none, _, _, _, _, _⟩ :: _) _ _; refine wpList_putQ rfl _ _ rfl g n cap i (.slice ko kl kc) (.slice vo vl vc) (.bool G) cs x rfl rfl hqV hin2 hreV ?_; intro w5 hq5 ho5)
          go_roundw
          case rel =>
            have bBV : Below B w V := bBA.trans (bV.mono (Nat.le_trans hBw bBA.size))
            have bW0V := bW0A.trans (bV.mono bW0A.size)
            refine ⟨_, _, _, _, _, _, _, _, _, _, _, _, _, _, _, _, _, _, _, _, _, _, _, ⟨i + 1, j + 1, cs.set i x, by omega, by omega, by go_num, by go_num, hq5, by show _ = _; rw [hsnH.out, List.take_succ_eq_append_getElem (by simp; omega)]; rw [htk2.out, htk.out]; simp, by show _ = _; rw [List.drop_set_of_lt (by omega)]; exact hdrop.out, bBV.trans (ho5.below (by simpa using hgB) (Nat.le_trans hBw bBV.size)), bW0V.trans (ho5.below (by simp; omega) bW0V.size)⟩, rfl⟩
          case measure => simp [intOf]; omega
      · have hjn : j = n := by omega
        have hjI : ¬ (j : Int) < n := by omega
        subst hjn
        have hfin : Hid (cs.take i = es.filter (fun e => !delK fs ts e.k)) := by
          show _ = _
          rw [htk.out, List.take_of_length_le (by omega)]
        have hiI : ¬ (j : Int) < i := by omega
        obtain ⟨V, hrun, hlx, hoff⟩ := run_clearQ wr 0 g j cap i cs hqr (by omega) (cap - i)
        rw [hfin.out] at hlx
        clear hqr htk hdr
        go_wp2
        go_ret
        exact ⟨_, _, _, rfl, hlx, hb.trans (hoff.below (by simpa using hgB) (Nat.le_trans hBw hb.size))⟩
end Go.Proofs.Yteeemfohehpaeaa
