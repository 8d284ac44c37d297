/- The walks of wal.Open, Add, Sync, Name and Count. -/
import Derived.Test.YtkbhhidmndhnoaaWLoad
namespace Go.Proofs.Ytkbhhidmndhnoaa
open Go.RowKit Go.Sort

theorem loadM_small {d : Dm} (h : d.Ok) (nm : ByteArray) : (∀ x ∈ (loadM d nm).2.1, x.length ≤ 1048576) ∧ (loadM d nm).2.1.length ≤ 16777216 := by
  unfold loadM
  cases hg : get d.files nm with
  | none => simp
  | some f =>
    have hlen : f.data.length ≤ 16777216 := Nat.le_trans (used_mem (get_mem hg)) (Nat.le_trans h.room h.lim)
    obtain ⟨h1, h2, _⟩ := allL_small _ f.data (Nat.le_refl _)
    simp only
    split
    · simp
    · split
      · exact ⟨h1, by simp only; omega⟩
      · exact ⟨h1, by simp only; omega⟩

/-- The log lies at block lg: its disk, its name, its count. -/
structure Lg (w : World) (lg pb : Nat) (nm : ByteArray) (c : Nat) : Prop where
  head : w.heap[lg]? = some (.cells #[.pointer (some ⟨pb, 0, none⟩), .string nm, .int .i64 c] 70 (0, 0))
theorem Lg.lt {w : World} {lg pb : Nat} {nm : ByteArray} {c : Nat} (h : Lg w lg pb nm c) : lg < w.heap.size := (Array.getElem?_eq_some_iff.1 h.head).1
theorem Lg.off {S : List Nat} {w w' : World} {lg pb : Nat} {nm : ByteArray} {c : Nat} (h : Lg w lg pb nm c) (ho : Off S w w') (hn : lg ∉ S) : Lg w' lg pb nm c := ⟨by rw [ho.block lg h.lt hn]; exact h.head⟩
theorem Lg.later {w w' : World} {lg pb : Nat} {nm : ByteArray} {c : Nat} (h : Lg w lg pb nm c) (hb : Below w.heap.size w w') : Lg w' lg pb nm c := h.off (S := []) (.of_below hb) (by simp)
theorem Lg.c0 {w : World} {lg pb : Nat} {nm : ByteArray} {c : Nat} (h : Lg w lg pb nm c) : w.cell? ⟨lg, 0, none⟩ = some (.pointer (some ⟨pb, 0, none⟩)) := by rw [cell_of_row w lg 0 _ 70 (0, 0) h.head]; rfl
theorem Lg.c1 {w : World} {lg pb : Nat} {nm : ByteArray} {c : Nat} (h : Lg w lg pb nm c) : w.cell? ⟨lg, 1, none⟩ = some (.string nm) := by rw [cell_of_row w lg 1 _ 70 (0, 0) h.head]; rfl
theorem Lg.c2 {w : World} {lg pb : Nat} {nm : ByteArray} {c : Nat} (h : Lg w lg pb nm c) : w.cell? ⟨lg, 2, none⟩ = some (.int .i64 c) := by rw [cell_of_row w lg 2 _ 70 (0, 0) h.head]; rfl
theorem Lg.z {w : World} {lg pb : Nat} {nm : ByteArray} {c : Nat} (h : Lg w lg pb nm c) (k : Nat) : w.frozen? ⟨lg, k, none⟩ = false := frozen_of_row w lg k _ 70 h.head
theorem Lg.inc {w : World} {lg pb : Nat} {nm : ByteArray} {c : Nat} (h : Lg w lg pb nm c) (N : Int) (n : Nat) (hN : N = (n : Int)) : Lg (w.setCell ⟨lg, 2, none⟩ (.int .i64 N)) lg pb nm n := by
  subst hN
  exact ⟨by rw [heap_setCell_same w lg 2 _ 70 _ h.head]; rfl⟩
theorem Lg.new (w : World) (pb : Nat) (nm : ByteArray) (c : Nat) : Lg (w.alloc (.cells #[.pointer (some ⟨pb, 0, none⟩), .string nm, .int .i64 c] 70)) w.heap.size pb nm c := ⟨heap_alloc_new w _⟩

/-- What Open tells. -/
def OpenPost (w : World) (pb : Nat) (d : Dm) (S : List Nat) (nm : ByteArray) (e : Ending) (w' : World) : Prop :=
  (∃ lg bo lb cb fv' vs' S', (openM d nm).2.2 = 0 ∧ e = .returned (.tuple #[.pointer (some ⟨lg, 0, none⟩), .slice bo lb cb, .int .i64 0]) ∧ Lg w' lg pb nm (openM d nm).2.1.length ∧ Dk w' pb (openM d nm).1 fv' vs' S' ∧ Step S S' w w' ∧ w.heap.size ≤ lg ∧ lg ∉ S' ∧ Lv 1 RL (lg :: S') w' bo lb cb (openM d nm).2.1) ∨
  (∃ fv' vs' S', (openM d nm).2.2 ≠ 0 ∧ e = .returned (.tuple #[.pointer none, .slice none 0 0, .int .i64 (openM d nm).2.2]) ∧ Dk w' pb (openM d nm).1 fv' vs' S' ∧ Step S S' w w')

theorem open_any (pb : Nat) (d : Dm) (fv : Value) (vs : List Value) (S : List Nat) (nm : ByteArray) (w : World) (h : Dk w pb d fv vs S) (hn : d.files.length ≤ 1000000) (hs : nm.size ≤ 281474976710656) :
    Calls Try.prog 11 #[.pointer (some ⟨pb, 0, none⟩), .string nm] w fun e w' => OpenPost w pb d S nm e w' := by
  have hload := load_any pb d fv vs S nm w h hn (by omega)
  obtain ⟨hsm1, hsm2⟩ := loadM_small h.ok nm
  have hO : openM d nm = if (loadM d nm).2.2 = 0 then (match decL (loadM d nm).2.1 with | none => ((loadM d nm).1, [], 14) | some ess => ((loadM d nm).1, ess, 0)) else ((loadM d nm).1, [], (loadM d nm).2.2) := rfl
  unfold OpenPost
  rw [hO]
  clear hO
  generalize loadM d nm = P at hload hsm1 hsm2 ⊢
  obtain ⟨D, recs, r⟩ := P
  simp only at hload hsm1 hsm2 ⊢
  by_cases hr : r = 0
  · subst hr
    simp only [if_true]
    have hdec := fun (V : World) (ao : Option Addr) (la ca : Nat) (l : Lx 1 RB V ao la ca recs) => decode_any ao la ca recs V l (fun x hx => by have := hsm1 x hx; omega) (by have := l.len_eq; omega)
    cases hd : decL recs with
    | none =>
      have hno : ∀ (V : World) (ao : Option Addr) (la ca : Nat), Lx 1 RB V ao la ca recs → Calls Try.prog 34 #[.slice ao la ca] V fun e w' => e = .returned (.tuple #[.slice none 0 0, .int .i64 14]) ∧ Below V.heap.size V w' := fun V ao la ca l => (hdec V ao la ca l).mono fun e w' hh => by
        rcases hh with ⟨es, _, _, _, h1, _⟩ | ⟨_, he, hb⟩
        · rw [hd] at h1; cases h1
        · exact ⟨he, hb⟩
      clear hdec
      simp only
      go_enter Try.func11, Try.ntmps11
      go_wp2_with (first
        | (go_at_call 33; with_reducible refine hload.mono ?_; rintro e w1 ⟨bo, lb, cb, rfl, fv', vs', S', K1, st1, l1⟩; have l1x := l1.read RB.stable)
        | (go_at_call 34; with_reducible refine (hno w1 bo lb cb l1x).mono ?_; rintro e w2 ⟨rfl, b2⟩))
      go_ret3
      exact .inr ⟨fv', vs', S', by decide, rfl, K1.later b2, st1.trans (Step.of_below b2)⟩
    | some ess =>
      have hyes : ∀ (V : World) (ao : Option Addr) (la ca : Nat), Lx 1 RB V ao la ca recs → Calls Try.prog 34 #[.slice ao la ca] V fun e w' => ∃ qo lq cq, e = .returned (.tuple #[.slice qo lq cq, .int .i64 0]) ∧ Lv 1 RL (List.range V.heap.size) w' qo lq cq ess ∧ Below V.heap.size V w' := fun V ao la ca l => (hdec V ao la ca l).mono fun e w' hh => by
        rcases hh with ⟨es', qo, lq, cq, h1, he, hx, hb⟩ | ⟨h1, _⟩
        · rw [hd] at h1; cases h1; exact ⟨qo, lq, cq, he, hx, hb⟩
        · rw [hd] at h1; cases h1
      clear hdec
      simp only
      go_enter Try.func11, Try.ntmps11
      go_wp2_with (first
        | (go_at_call 33; with_reducible refine hload.mono ?_; rintro e w1 ⟨bo, lb, cb, rfl, fv', vs', S', K1, st1, l1⟩; have l1x := l1.read RB.stable)
        | (go_at_call 34; with_reducible refine (hyes w1 bo lb cb l1x).mono ?_; rintro e w2 ⟨qo, lq, cq, rfl, l2, b2⟩)
        | (go_at_call 35; with_reducible refine (sclone_any nm w2 hs).mono ?_; rintro e w3 ⟨rfl, b3⟩))
      go_ret3
      have hql := l2.lx.len_eq
      have b23 := b2.trans (b3.mono b2.size)
      have hs12 := b2.size
      have hs23 := b3.size
      have hs01 := st1.off.size
      have K3 := K1.later b23
      have hlt := K1.lt
      have hlg : Lg (w3.alloc (.cells #[.pointer (some ⟨pb, 0, none⟩), .string nm, .int .i64 lq] 70)) w3.heap.size pb nm ess.length := by rw [hql]; exact Lg.new w3 pb nm lq
      have bA : Below w3.heap.size w3 (w3.alloc (.cells #[.pointer (some ⟨pb, 0, none⟩), .string nm, .int .i64 lq] 70)) := (Below.refl _ _).alloc (Nat.le_refl _) _
      refine .inl ⟨w3.heap.size, qo, lq, cq, fv', vs', S', by simp, rfl, hlg, K3.later bA, st1.trans (Step.of_below (b23.trans (bA.mono (by omega)))), by omega, fun hk => by have := hlt _ hk; omega, ?_⟩
      refine ((l2.later RL.stable b3).mono (X' := w3.heap.size :: S') RL.stable RL.plain (by omega) (fun k hk => ?_)).later RL.stable bA
      rcases List.mem_cons.1 hk with rfl | hk
      · exact .inr (Nat.le_refl _)
      · exact .inl (by have := hlt k hk; simp; omega)
  · have hr' : (r == 0) = false := by simp [hr]
    rw [if_neg hr]
    go_enter Try.func11, Try.ntmps11
    go_wp2_with (go_at_call 33; with_reducible refine hload.mono ?_; rintro e w1 ⟨bo, lb, cb, rfl, fv', vs', S', K1, st1, l1⟩)
    go_ret3
    exact .inr ⟨fv', vs', S', hr, rfl, K1, st1⟩

/-- Open of no disk. -/
theorem open_nil (nm : ByteArray) (w : World) : Calls Try.prog 11 #[.pointer none, .string nm] w fun e w' => e = .returned (.tuple #[.pointer none, .slice none 0 0, .int .i64 1]) ∧ w = w' := by
  go_enter Try.func11, Try.ntmps11
  go_wp2
  go_ret3
  exact ⟨rfl, rfl⟩

theorem count_any (lg pb : Nat) (nm : ByteArray) (c : Nat) (w : World) (h : Lg w lg pb nm c) :
    Calls Try.prog 25 #[.pointer (some ⟨lg, 0, none⟩)] w fun e w' => e = .returned (.int .i64 c) ∧ w = w' := by
  have c2 := h.c2
  go_enter Try.func25, Try.ntmps25
  go_wp2
  go_ret
  exact ⟨rfl, rfl⟩
theorem name_any (lg pb : Nat) (nm : ByteArray) (c : Nat) (w : World) (h : Lg w lg pb nm c) :
    Calls Try.prog 37 #[.pointer (some ⟨lg, 0, none⟩)] w fun e w' => e = .returned (.string nm) ∧ w = w' := by
  have c1 := h.c1
  go_enter Try.func37, Try.ntmps37
  go_wp2
  go_ret
  exact ⟨rfl, rfl⟩

theorem Step.cons {S S' : List Nat} {w w' : World} (h : Step S S' w w') (x : Nat) : Step (x :: S) (x :: S') w w' :=
  ⟨h.off.mono (fun k hk => List.mem_cons_of_mem _ hk), fun k hk => by
    rcases List.mem_cons.1 hk with rfl | hk
    · exact .inl (by simp)
    · exact (h.sub k hk).imp_left (List.mem_cons_of_mem _)⟩
theorem Step.out {S S' : List Nat} {w w' : World} (h : Step S S' w w') {x : Nat} (hx : x ∉ S) (hl : x < w.heap.size) : x ∉ S' := fun hk => (h.sub x hk).elim hx (fun e => by omega)

theorem lsync_any (lg pb : Nat) (nm : ByteArray) (c : Nat) (d : Dm) (fv : Value) (vs : List Value) (S : List Nat) (w : World) (g : Lg w lg pb nm c) (h : Dk w pb d fv vs S) (hg : lg ∉ S) (hn : d.files.length ≤ 1000000) :
    Calls Try.prog 19 #[.pointer (some ⟨lg, 0, none⟩)] w fun e w' => e = .returned (.int .i64 (d.sync nm).2) ∧ ∃ fv' vs' S', Dk w' pb (d.sync nm).1 fv' vs' S' ∧ Lg w' lg pb nm c ∧ lg ∉ S' ∧ Step S S' w w' := by
  have c0 := g.c0
  have c1 := g.c1
  have bd : Below w.heap.size w w.drew := (Below.refl _ _).drew
  have hsy : Calls Try.prog 42 #[.pointer (some ⟨pb, 0, none⟩), .string nm] w.drew fun e w' => e = .returned (.int .i64 (d.sync nm).2) ∧ ∃ fv' vs' S', Dk w' pb (d.sync nm).1 fv' vs' S' ∧ Lg w' lg pb nm c ∧ lg ∉ S' ∧ Step S S' w w' := by
    refine (sync_any pb d fv vs S nm w.drew (h.later bd) hn).mono ?_
    rintro e w' ⟨rfl, fv', vs', S', K', st⟩
    exact ⟨rfl, fv', vs', S', K', (g.later bd).off st.off hg, st.out hg g.lt, (Step.of_below bd).trans st⟩
  clear h
  generalize d.sync nm = P at hsy ⊢
  go_enter Try.func19, Try.ntmps19
  go_wp2_with fail
  go_region_with (go_at_call 42; with_reducible refine hsy.mono ?_; rintro e w3 ⟨rfl, fin3⟩)
  all_goals
    go_wp2
    go_ret
    exact ⟨rfl, fin3⟩

end Go.Proofs.Ytkbhhidmndhnoaa
