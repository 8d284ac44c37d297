/- A log that a statement has made itself; the statements' own fresh, same, laid and batches. -/
import Derived.Test.YtkbhhidmndhnoaaWAdd
import Derived.Test.YtkbhhidmndhnoaaWPlain
import Derived.Test.YtkbhhidmndhnoaaWKeep
import Derived.Test.YtkbhhidmndhnoaaFWalksI
import Derived.Test.YtkbhhidmndhnoaaFWalksO
import Derived.Test.YtkbhhidmndhnoaaFWalksK
namespace Go.Proofs.Ytkbhhidmndhnoaa
open Go.RowKit Go.Sort

/-- The log lies at block lg, its disk at pb; all that is theirs from block B on; a list lies apart. -/
def Wl (B : Nat) (w : World) (lg pb : Nat) (nm : ByteArray) (c : Nat) (d : Dm) (bo : Option Addr) (lb cb : Nat) (ess : List (List Ent)) : Prop :=
  ∃ fv vs S, Dk w pb d fv vs S ∧ Lg w lg pb nm c ∧ lg ∉ S ∧ (∀ k ∈ lg :: S, B ≤ k) ∧ B ≤ w.heap.size ∧ Lv 1 RL (lg :: S) w bo lb cb ess

theorem Wl.later {B : Nat} {w w' : World} {lg pb : Nat} {nm : ByteArray} {c : Nat} {d : Dm} {bo : Option Addr} {lb cb : Nat} {ess : List (List Ent)} (h : Wl B w lg pb nm c d bo lb cb ess) (hb : Below w.heap.size w w') : Wl B w' lg pb nm c d bo lb cb ess := by
  obtain ⟨fv, vs, S, K, g, hg, hS, hB, l⟩ := h
  exact ⟨fv, vs, S, K.later hb, g.later hb, hg, hS, Nat.le_trans hB hb.size, l.later RL.stable hb⟩
theorem Wl.dl {B : Nat} {w : World} {lg pb : Nat} {nm : ByteArray} {c : Nat} {d : Dm} {bo : Option Addr} {lb cb : Nat} {ess : List (List Ent)} (h : Wl B w lg pb nm c d bo lb cb ess) : Dl B w pb d := by
  obtain ⟨fv, vs, S, K, g, hg, hS, hB, l⟩ := h
  exact ⟨fv, vs, S, K, fun k hk => hS k (by simp [hk]), hB⟩
theorem Wl.list {B : Nat} {w : World} {lg pb : Nat} {nm : ByteArray} {c : Nat} {d : Dm} {bo : Option Addr} {lb cb : Nat} {ess : List (List Ent)} (h : Wl B w lg pb nm c d bo lb cb ess) : Lx 1 RL w bo lb cb ess := by
  obtain ⟨fv, vs, S, K, g, hg, hS, hB, l⟩ := h
  exact l.read RL.stable
theorem Wl.log {B : Nat} {w : World} {lg pb : Nat} {nm : ByteArray} {c : Nat} {d : Dm} {bo : Option Addr} {lb cb : Nat} {ess : List (List Ent)} (h : Wl B w lg pb nm c d bo lb cb ess) : Lg w lg pb nm c := by
  obtain ⟨fv, vs, S, K, g, hg, hS, hB, l⟩ := h
  exact g
theorem Wl.size {B : Nat} {w : World} {lg pb : Nat} {nm : ByteArray} {c : Nat} {d : Dm} {bo : Option Addr} {lb cb : Nat} {ess : List (List Ent)} (h : Wl B w lg pb nm c d bo lb cb ess) : B ≤ w.heap.size := h.dl.size

theorem Step.under {S S' : List Nat} {B : Nat} {w w' : World} (st : Step S S' w w') (hS : ∀ k ∈ S, B ≤ k) (hB : B ≤ w.heap.size) : (∀ k ∈ S', B ≤ k) ∧ B ≤ w'.heap.size ∧ Below B w w' := ⟨st.from hS hB, Nat.le_trans hB st.off.size, st.below hS hB⟩

theorem open_yes {B : Nat} {w : World} {pb : Nat} {d : Dm} (h : Dl B w pb d) (nm : ByteArray) (D : Dm) (ess : List (List Ent)) (hE : openM d nm = (D, ess, 0)) (hn : d.files.length ≤ 1000000) (hs : nm.size ≤ 281474976710656) :
    Calls Try.prog 11 #[.pointer (some ⟨pb, 0, none⟩), .string nm] w fun e w' => ∃ lg bo lb cb, e = .returned (.tuple #[.pointer (some ⟨lg, 0, none⟩), .slice bo lb cb, .int .i64 0]) ∧ lb = ess.length ∧ Wl B w' lg pb nm ess.length D bo lb cb ess ∧ Below B w w' := by
  obtain ⟨fv, vs, S, K, hS, hB⟩ := h
  refine (open_any pb d fv vs S nm w K hn hs).mono ?_
  rintro e w' hh
  unfold OpenPost at hh
  rw [hE] at hh
  rcases hh with ⟨lg, bo, lb, cb, fv', vs', S', _, rfl, g, K', st, hlg, hno, l⟩ | ⟨_, _, _, h1, _⟩
  · obtain ⟨u1, u2, u3⟩ := st.under hS hB
    refine ⟨lg, bo, lb, cb, rfl, l.lx.len_eq.symm, ⟨fv', vs', S', K', g, hno, fun k hk => ?_, u2, l⟩, u3⟩
    rcases List.mem_cons.1 hk with rfl | hk
    · omega
    · exact u1 k hk
  · exact absurd rfl h1
theorem open_no {B : Nat} {w : World} {pb : Nat} {d : Dm} (h : Dl B w pb d) (nm : ByteArray) (D : Dm) (ess : List (List Ent)) (r : Int) (hr : r ≠ 0) (hE : openM d nm = (D, ess, r)) (hn : d.files.length ≤ 1000000) (hs : nm.size ≤ 281474976710656) :
    Calls Try.prog 11 #[.pointer (some ⟨pb, 0, none⟩), .string nm] w fun e w' => e = .returned (.tuple #[.pointer none, .slice none 0 0, .int .i64 r]) ∧ Dl B w' pb D ∧ Below B w w' := by
  obtain ⟨fv, vs, S, K, hS, hB⟩ := h
  refine (open_any pb d fv vs S nm w K hn hs).mono ?_
  rintro e w' hh
  unfold OpenPost at hh
  rw [hE] at hh
  rcases hh with ⟨_, _, _, _, _, _, _, h1, _⟩ | ⟨fv', vs', S', _, rfl, K', st⟩
  · exact absurd h1 hr
  · exact ⟨rfl, Dl.out hS hB K' st⟩
theorem add_l {B : Nat} {w : World} {lg pb : Nat} {nm : ByteArray} {c : Nat} {d : Dm} {bo : Option Addr} {lb cb : Nat} {ess : List (List Ent)} (h : Wl B w lg pb nm c d bo lb cb ess) (ao : Option Addr) (la ca : Nat) (l : List Ent) (hl : Lx 3 RE w ao la ca l) (hm : mayL l = true ∧ (batchL l).length ≤ 1000) (D : Dm) (r : Int) (c' : Nat) (hE : d.append nm (recL (batchL l)) = (D, r)) (hc' : c' = if r = 0 then c + 1 else c) (hn : d.files.length ≤ 1000000) (hc9 : c ≤ 1000000) :
    Calls Try.prog 18 #[.pointer (some ⟨lg, 0, none⟩), .slice ao la ca] w fun e w' => e = .returned (.int .i64 r) ∧ Wl B w' lg pb nm c' D bo lb cb ess ∧ Below B w w' := by
  obtain ⟨fv, vs, S, K, g, hg, hS, hB, lv⟩ := h
  refine (add_ok lg pb nm c d fv vs S ao la ca l w g K hg hn hl hm.1 (by omega) hc9).mono ?_
  rintro e w' ⟨rfl, fv', vs', S', K', g', hno, st⟩
  rw [hE] at K' g' ⊢
  obtain ⟨u1, u2, u3⟩ := st.under hS hB
  exact ⟨rfl, ⟨fv', vs', S', K', by rw [hc']; exact g', hno, u1, u2, lv.off RL.stable RL.plain (by omega) st.off st.sub⟩, u3⟩
theorem lsync_l {B : Nat} {w : World} {lg pb : Nat} {nm : ByteArray} {c : Nat} {d : Dm} {bo : Option Addr} {lb cb : Nat} {ess : List (List Ent)} (h : Wl B w lg pb nm c d bo lb cb ess) (D : Dm) (r : Int) (hE : d.sync nm = (D, r)) (hn : d.files.length ≤ 1000000) :
    Calls Try.prog 19 #[.pointer (some ⟨lg, 0, none⟩)] w fun e w' => e = .returned (.int .i64 r) ∧ Wl B w' lg pb nm c D bo lb cb ess ∧ Below B w w' := by
  obtain ⟨fv, vs, S, K, g, hg, hS, hB, lv⟩ := h
  refine (lsync_any lg pb nm c d fv vs S w g K hg hn).mono ?_
  rintro e w' ⟨rfl, fv', vs', S', K', g', hno, st⟩
  rw [hE] at K' ⊢
  have st2 := st.cons lg
  obtain ⟨u1, u2, u3⟩ := st2.under hS hB
  exact ⟨rfl, ⟨fv', vs', S', K', g', hno, u1, u2, lv.off RL.stable RL.plain (by omega) st2.off st2.sub⟩, u3⟩

theorem fresh_any (w : World) : Calls Try.prog 10 #[] w fun e w' => e = .returned (.pointer (some ⟨w.heap.size, 0, none⟩)) ∧ Dl w.heap.size w' w.heap.size ⟨16777216, [], 0, false⟩ ∧ Below w.heap.size w w' := by
  go_enter Try.func10, Try.ntmps10
  go_wp2_with (go_at_call 22; with_reducible refine (new_l 16777216 16777216 rfl (by omega) w).mono ?_; rintro e w1 ⟨rfl, d1, b1⟩)
  go_ret
  exact ⟨rfl, d1, b1⟩

set_option maxHeartbeats 1000000 in
theorem same_yes (ao bo : Option Addr) (la ca lb cb : Nat) (l m : List (List Ent)) (w : World) (ha : Lx 1 RL w ao la ca l) (hm : Lx 1 RL w bo lb cb m) (sa : la ≤ 20000000) (hs : sameB l m) (hsz : ∀ es ∈ l, es.length ≤ 8191) :
    Calls Try.prog 21 #[.slice ao la ca, .slice bo lb cb] w fun e w' => e = .returned (.bool true) ∧ Below w.heap.size w w' := by
  have e1 := ha.len_eq
  have e2 := hm.len_eq
  have e3 := hs.1
  obtain rfl : lb = la := by omega
  by_cases h0 : 0 < lb
  · obtain ⟨b, off, rfl, hc⟩ := ha.headL h0
    obtain ⟨b', off', rfl, hc'⟩ := hm.headL h0
    go_enter Try.func21, Try.ntmps21
    go_wp2
    go_loopw [5] (fun i wr => ∃ k : Nat, k ≤ lb ∧ i = .int .i64 k ∧ Below w.heap.size w wr) (fun i _ => lb - (intOf i).toNat)
    case atStart => exact ⟨0, by omega, rfl, Below.refl _ _⟩
    case round =>
      obtain ⟨k, hk, rfl, hb⟩ := hrel
      by_cases hk2 : k < lb
      · have hx : l[k]? = some (l[k]'(by omega)) := by simp
        have hy : m[k]? = some (m[k]'(by omega)) := by simp
        obtain ⟨eo, el, ec, c1, t1⟩ := hc k _ hx
        obtain ⟨fo, fl, fc, c2, t2⟩ := hc' k _ hy
        have hsm := hs.2 k _ _ hx hy
        have hs1 := hsz _ (List.getElem_mem (show k < l.length by omega))
        have hs2 := sameL_length _ _ hsm
        generalize l[k]'(by omega) = x at t1 hsm hs1 hs2
        generalize m[k]'(by omega) = y at t2 hsm hs2
        have l1 := t1.len_eq
        have l2 := t2.len_eq
        have c1 := fun d os => cell_regrown (cell_later hb c1) d os
        have c2 := fun d os => cell_regrown (cell_later hb c2) d os
        have HS : ∀ d os, Calls Try.prog 44 #[.slice eo el ec, .slice fo fl fc] (grow (redrawn wr d) os) fun e w' => e = .returned (.bool true) ∧ Below (grow (redrawn wr d) os).heap.size (grow (redrawn wr d) os) w' := fun d os => by
          have := same8_any eo fo el ec fl fc x y _ ((t1.later RE.stable hb).later RE.stable (below_regrown wr d os)) ((t2.later RE.stable hb).later RE.stable (below_regrown wr d os)) (by omega) (by omega)
          rwa [hsm] at this
        clear t1 t2 hs1 hs2 l1 l2 hsm
        go_wp2_with fail
        refine wp_region_quiet_below (by kernel_rfl) (by kernel_rfl) ?_
        repeat (go_big_quiet_step (first | (go_at_call 44; with_reducible exact Calls.regrown_of (HS _ _))))
        (with_reducible refine wpQuiet_nil ?_)
        intro _ hw'
        obtain ⟨⟨dq, osq⟩, hw''⟩ := hw'
        subst hw''
        have hbq := hb.trans ((below_regrown wr dq osq).mono hb.size)
        go_wp2
        go_roundw
        case rel => exact ⟨k + 1, by omega, by go_num, hbq⟩
        case measure => simp [intOf]; omega
      · go_wp2
        go_ret
        exact ⟨rfl, hb⟩
  · obtain rfl : lb = 0 := by omega
    go_enter Try.func21, Try.ntmps21
    go_wp2
    refine wp_loop_rounds 1 ?_
    rw [rounds_succ]
    go_wp2
    go_ret
    exact ⟨rfl, Below.refl _ _⟩

theorem laid_any (ao : Option Addr) (la ca : Nat) (l : List (List Ent)) (w : World) (ha : Lx 1 RL w ao la ca l) (hf : Fine l) (sa : la ≤ 100) :
    Calls Try.prog 8 #[.slice ao la ca] w fun e w' => ∃ bo lb cb, e = .returned (.slice bo lb cb) ∧ Tx w' bo lb cb (rowB l) ∧ Below w.heap.size w w' := by
  have e1 := ha.len_eq
  by_cases h0 : 0 < la
  · obtain ⟨b, off, rfl, hc⟩ := ha.headL h0
    go_enter Try.func8, Try.ntmps8
    go_wp2
    go_loopw [3, 4] (fun o i wr => ∃ (k m : Nat) (bo : Option Addr) (cb : Nat), k ≤ la ∧ i = .int .i64 k ∧ o = .slice bo m cb ∧ Tx wr bo m cb (rowB (l.take k)) ∧ Below w.heap.size w wr) (fun _ i _ => la - (intOf i).toNat)
    case atStart => exact ⟨0, 0, none, 0, by omega, rfl, rfl, Tx.nil _, Below.refl _ _⟩
    case round =>
      obtain ⟨k, m, bo, cb, hk, rfl, rfl, t, hb⟩ := hrel
      by_cases hk2 : k < la
      · have hx : l[k]? = some (l[k]'(by omega)) := by simp
        obtain ⟨eo, el, ec, c1, t1⟩ := hc k _ hx
        have hfx := hf _ (List.getElem_mem (show k < l.length by omega))
        have hsuc : Hid (rowB (l.take (k + 1)) = rowB (l.take k) ++ recL (batchL (l[k]'(by omega)))) := by show _ = _; rw [List.take_succ_eq_append_getElem (by omega), rowB_snoc]
        have hrl := rowB_length (l.take k) (hf.take k)
        have htl := t.len_eq
        generalize l[k]'(by omega) = x at t1 hfx hsuc
        generalize rowB (l.take k) = R at t hsuc hrl htl
        have hm9 : m ≤ 200000 := by simp at hrl; have : 1006 * min k l.length ≤ 1006 * 100 := Nat.mul_le_mul_left _ (by omega); omega
        have hbt := rbatch_any eo el ec x wr (t1.later RE.stable hb) hfx.1
        have hput : ∀ (V : World) (qo : Option Addr) (lq cq : Nat), Below wr.heap.size wr V → Tx V qo lq cq (batchL x) → Calls Try.prog 13 #[.slice bo m cb, .slice qo lq cq] V fun e w' => ∃ co lc cc, e = .returned (.slice co lc cc) ∧ Tx w' co lc cc (R ++ recL (batchL x)) ∧ Below V.heap.size V w' := fun V qo lq cq b2 t2 => rput_any bo qo m cb lq cq R (batchL x) V (t.later b2) t2 (by omega) (by have := t2.len_eq; omega)
        have c1 := cell_later hb c1
        clear t1 hfx hrl htl
        generalize recL (batchL x) = RR at hput hsuc
        go_wp2_with (first
          | (go_at_call 28; with_reducible refine hbt.mono ?_; rintro e V ⟨qo, lq, cq, rfl, g2, b2⟩; have t2 := g2.tx)
          | (go_at_call 13; with_reducible refine (hput V qo lq cq b2 t2).mono ?_; rintro e V3 ⟨co, lc, cc, rfl, t3, b3⟩))
        go_roundw
        case rel => exact ⟨k + 1, lc, co, cc, by omega, by go_num, rfl, by rw [hsuc.out]; exact t3, (hb.trans (b2.mono hb.size)).trans (b3.mono (by have := hb.size; have := b2.size; omega))⟩
        case measure => simp [intOf]; omega
      · have hkl : k = la := by omega
        rw [hkl, List.take_of_length_le (by omega)] at t
        go_wp2
        go_ret
        exact ⟨bo, m, cb, rfl, t, hb⟩
  · obtain rfl : la = 0 := by omega
    have hl0 : l = [] := List.eq_nil_of_length_eq_zero e1
    subst hl0
    go_enter Try.func8, Try.ntmps8
    go_wp2
    refine wp_loop_rounds 1 ?_
    rw [rounds_succ]
    go_wp2
    go_ret
    exact ⟨none, 0, 0, rfl, Tx.nil _, Below.refl _ _⟩

end Go.Proofs.Ytkbhhidmndhnoaa
