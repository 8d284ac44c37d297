/- manifest.Read, walked. -/
import Derived.Test.YtgleblfkcdkaeaaDoorMWrite
import Derived.Test.YtgleblfkcdkaeaaDoorMDecB
import Derived.Test.YtgleblfkcdkaeaaDoorMSmall
namespace Go.Proofs.YtgleblfkcdkaeaaDoor
set_option maxRecDepth 100000
open Go.RowKit Go.Sort

/-- A list that a call answered, its numbers from block B on. -/
def ManAt (B : Nat) (w : World) (v : Value) (m : Man) : Prop := ∃ bo lb cb, v = .agg #[.slice bo lb cb, .int .i64 m.wal, .int .i64 m.nxt] ∧ Lx 1 RI w bo lb cb m.ts ∧ ∀ ad, bo = some ad → B ≤ ad.block
theorem ManAt.less {B B' : Nat} {w : World} {v : Value} {m : Man} (h : ManAt B w v m) (hb : B' ≤ B) : ManAt B' w v m := by
  obtain ⟨bo, lb, cb, rfl, hl, hn⟩ := h
  exact ⟨bo, lb, cb, rfl, hl, fun ad ha => Nat.le_trans hb (hn ad ha)⟩
theorem ManAt.later {B : Nat} {w w' : World} {v : Value} {m : Man} (h : ManAt B w v m) (hb : Below w.heap.size w w') : ManAt B w' v m := by
  obtain ⟨bo, lb, cb, rfl, hl, hn⟩ := h
  exact ⟨bo, lb, cb, rfl, hl.later RI.stable hb, hn⟩
/-- A list is off the blocks S. -/
theorem Lx.offI {S : List Nat} {w w' : World} {ao : Option Addr} {len cap : Nat} {ts : List Int} (h : Lx 1 RI w ao len cap ts) (ho : Off S w w') (hz : ∀ ad, ao = some ad → ad.block ∉ S) : Lx 1 RI w' ao len cap ts :=
  ⟨h.len_eq, h.le, h.top, h.bare, fun ad ha j e he => by
    obtain ⟨u, h1, h2⟩ := h.cell ad ha j e he
    exact ⟨u, fun i x hx => ho.cell (h1 i x hx) (by rw [add_block]; exact hz ad ha), h2⟩⟩

theorem decode_any (ao : Option Addr) (la ca : Nat) (xs : List Int) (w : World) (h : Tx w ao la ca xs) (hl9 : la ≤ 900000000) :
    Calls Tryd.prog 32 #[.slice ao la ca] w fun e w' => ((decM xs = none ∧ e = .returned (.tuple #[nilMan, .int .i64 12])) ∨ (∃ m v, decM xs = some m ∧ m.Right ∧ e = .returned (.tuple #[v, .int .i64 0]) ∧ ManAt w.heap.size w' v m)) ∧ Below w.heap.size w w' := by
  by_cases hf : FitM xs
  · refine (decode_fit ao la ca xs w h hl9 hf).mono ?_
    rintro e w' (⟨hn, rfl, hb⟩ | ⟨bo, lb, cb, hR, rfl, hl, hnew, hb⟩)
    · exact ⟨.inl ⟨decM_none (fun k => hn k.2), rfl⟩, hb⟩
    · exact ⟨.inr ⟨manOf xs, _, decM_some ⟨hf, hR⟩, hR, rfl, bo, lb, cb, rfl, hl, hnew⟩, hb⟩
  · refine (decode_unfit ao la ca xs w h hl9 hf).mono ?_
    rintro e w' ⟨rfl, hb⟩
    exact ⟨.inl ⟨decM_none (fun k => hf k.1), rfl⟩, hb⟩

def readL (xs : List Int) : Option Man := if (allL xs).2.2 = true ∧ (allL xs).2.1 = xs.length ∧ (allL xs).1.length = 1 then decM ((allL xs).1.getD 0 []) else none

theorem nil_box (w : World) : ∃ V, V = w.alloc (.cells #[.slice none 0 0, .int .i64 0, .int .i64 0] 24) ∧ Mb V w.heap.size (.slice none 0 0) (.int .i64 0) (.int .i64 0) ∧ Below w.heap.size w V ∧ V.heap.size = w.heap.size + 1 := ⟨_, rfl, Mb.new _ _ _ _, (Below.refl _ _).alloc (Nat.le_refl _) _, by simp⟩

theorem three_off (g : Nat) (w : World) (a b c : Value) : Off [g] w (((w.setCell ⟨g, 0, none⟩ a).setCell ⟨g, 1, none⟩ b).setCell ⟨g, 2, none⟩ c) :=
  (((Off.refl _ _).setCell (p := ⟨g, 0, none⟩) (by simp) _).setCell (p := ⟨g, 1, none⟩) (by simp) _).setCell (p := ⟨g, 2, none⟩) (by simp) _

set_option maxHeartbeats 4000000 in
theorem readm_none {B : Nat} {Z : List Nat} {w : World} {pb : Nat} {d : Dm} (hd : Dx B Z w pb d) (hn : d.files.length ≤ 1000) (hg : get d.files nmList = none) :
    Calls Tryd.prog 15 #[.pointer (some ⟨pb, 0, none⟩)] w fun e w' => e = .returned (.tuple #[nilMan, .bool false, .int .i64 0]) ∧ Below w.heap.size w w' := by
  obtain ⟨V, hV, mV, hb, _⟩ := nil_box w
  have hr := read_x (hd.later hb) nmList [] false (rd_none hg) (by rw [hg]; rfl) (by omega)
  go_enter Tryd.func15, Tryd.ntmps15
  go_wp2_with fail
  rw [← hV]
  clear hV
  with_reducible refine hr.mono ?_
  rintro e V1 ⟨bo, lb, cb, rfl, t1, hb1⟩
  have m1 := mV.later hb1
  have q0 := m1.c0
  have q1 := m1.c1
  have q2 := m1.c2
  have f0 := m1.z 0
  have f1 := m1.z 1
  have f2 := m1.z 2
  go_wp2
  try simp only [Exit.inBlock, Exit.then]
  refine bodyPost_ret (results_cell3 rfl rfl (((m1.set0 _).set1 _).set2 _).load) rfl ?_
  exact ⟨rfl, (below_trans hb hb1).trans ((three_off _ _ _ _ _).below (by simp) (below_trans hb hb1).size)⟩

set_option maxHeartbeats 8000000 in
theorem readm_some {B : Nat} {Z : List Nat} {w : World} {pb : Nat} {d : Dm} (hd : Dx B Z w pb d) (hn : d.files.length ≤ 1000) {f : Fl} (hg : get d.files nmList = some f) (hl : f.data.length ≤ 16777216) :
    Calls Tryd.prog 15 #[.pointer (some ⟨pb, 0, none⟩)] w fun e w' => ((readL f.data = none ∧ e = .returned (.tuple #[nilMan, .bool false, .int .i64 14])) ∨ (∃ m v, readL f.data = some m ∧ m.Right ∧ e = .returned (.tuple #[v, .bool true, .int .i64 0]) ∧ ManAt w.heap.size w' v m)) ∧ Below w.heap.size w w' := by
  obtain ⟨V, hV, mV, hb, _⟩ := nil_box w
  have hr := read_x (hd.later hb) nmList f.data true (rd_some hg) (by rw [hg]; rfl) (by omega)
  generalize f.data = xs at *
  go_enter Tryd.func15, Tryd.ntmps15
  go_wp2_with fail
  rw [← hV]
  clear hV
  with_reducible refine hr.mono ?_
  rintro e V1 ⟨bo, lb, cb, rfl, t1, hb1⟩
  have e1 := t1.len_eq
  go_wp2_with fail
  with_reducible refine (fall_any bo lb cb xs V1 t1 (by omega)).mono ?_
  rintro e V2 ⟨ro, lr, cr, rfl, L2, hb2⟩
  have e2 := L2.len_eq
  obtain ⟨R, hRR⟩ : ∃ R, Hid (allL xs = R) := ⟨_, rfl⟩
  have hrl : readL xs = if R.2.2 = true ∧ R.2.1 = xs.length ∧ R.1.length = 1 then decM (R.1.getD 0 []) else none := by unfold readL; rw [hRR.out]
  rw [hRR.out] at L2 e2 ⊢
  obtain ⟨recs, n, ok⟩ := R
  have hsm : ∀ y ∈ recs, y.length ≤ 1048576 := by have := (allL_small _ xs (Nat.le_refl _)).1; rw [hRR.out] at this; exact this
  simp only at L2 e2 hrl ⊢
  have hrlH : Hid (readL xs = if ok = true ∧ n = xs.length ∧ recs.length = 1 then decM (recs.getD 0 []) else none) := hrl
  clear hrl hRR hr t1
  have m2 := mV.later (below_trans hb1 hb2)
  have hbb := below_trans hb (below_trans hb1 hb2)
  by_cases hgood : ok = true ∧ n = xs.length ∧ recs.length = 1
  · obtain ⟨rfl, hn1, hn2⟩ := hgood
    have hE : Hid (readL xs = decM (recs.getD 0 [])) := by show _ = _; rw [hrlH.out, if_pos ⟨rfl, hn1, hn2⟩]
    clear hrlH
    obtain rfl : n = lb := by omega
    obtain rfl : lr = 1 := by omega
    obtain ⟨b, off, rfl, hc⟩ := L2.headB (by omega)
    have hx : recs[0]? = some (recs.getD 0 []) := by
      match recs, e2 with
      | [y], _ => rfl
    obtain ⟨eo, el, ec, c0, t2⟩ := hc 0 _ hx
    rw [Nat.add_zero] at c0
    generalize recs.getD 0 [] = y at hx hE t2
    have hel : el ≤ 900000000 := by
      have := t2.len_eq
      have := hsm y (List.mem_of_getElem? hx)
      omega
    have hdec := decode_any eo el ec y V2 t2 hel
    unfold nilMan at hdec
    clear hc L2 hx t2 hn1 hn2 e2 e1 hsm
    go_wp2_with fail
    with_reducible refine hdec.mono ?_
    rintro e V3 ⟨hcase, hb3⟩
    have m3 := m2.later hb3
    have hb4 := below_trans hbb hb3
    have mo := fun o => m3.later ((Below.refl V3.heap.size V3).alloc (Nat.le_refl _) o)
    have bo2 : ∀ o a b c, Below w.heap.size w ((((V3.alloc o).setCell ⟨w.heap.size, 0, none⟩ a).setCell ⟨w.heap.size, 1, none⟩ b).setCell ⟨w.heap.size, 2, none⟩ c) := fun o a b c => (hb4.alloc hb4.size o).trans ((three_off _ _ _ _ _).below (by simp) (hb4.alloc hb4.size o).size)
    have q0 := fun o => (mo o).c0
    have q1 := fun o => (mo o).c1
    have q2 := fun o => (mo o).c2
    have f0 := fun o => (mo o).z 0
    have f1 := fun o => (mo o).z 1
    have f2 := fun o => (mo o).z 2
    rcases hcase with ⟨hnone, rfl⟩ | ⟨m, v, hsome, hR, rfl, hm⟩
    · have hN : Hid (readL xs = none) := hE.out.trans hnone
      clear hnone hE
      go_wp2
      try simp only [Exit.inBlock, Exit.then]
      refine bodyPost_ret (results_cell3 rfl rfl ((((mo _).set0 _).set1 _).set2 _).load) rfl ?_
      exact ⟨.inl ⟨hN.out, rfl⟩, bo2 _ _ _ _⟩
    · obtain ⟨bo', lb', cb', rfl, hl, hnew⟩ := hm
      have hN : Hid (readL xs = some m) := hE.out.trans hsome
      clear hsome hE
      go_wp2
      try simp only [Exit.inBlock, Exit.then]
      refine bodyPost_ret (results_cell3 rfl rfl ((((mo _).set0 _).set1 _).set2 _).load) rfl ?_
      refine ⟨.inr ⟨m, _, hN.out, hR, rfl, bo', lb', cb', rfl, ?_, fun ad ha => Nat.le_trans hbb.size (hnew ad ha)⟩, bo2 _ _ _ _⟩
      exact (hl.later RI.stable ((Below.refl _ _).alloc (Nat.le_refl _) _)).offI (three_off _ _ _ _ _) (fun ad ha hi => by have := hnew ad ha; have := m2.lt; simp at hi; omega)
  · clear hsm
    have hE : Hid (readL xs = none) := by show _ = _; rw [hrlH.out, if_neg hgood]
    clear hrlH
    have q0 := m2.c0
    have q1 := m2.c1
    have q2 := m2.c2
    have f0 := m2.z 0
    have f1 := m2.z 1
    have f2 := m2.z 2
    have fin : ∀ W, W = ((V2.setCell ⟨w.heap.size, 0, none⟩ (.slice none 0 0)).setCell ⟨w.heap.size, 1, none⟩ (.int .i64 0)).setCell ⟨w.heap.size, 2, none⟩ (.int .i64 0) → Below w.heap.size w W := fun W hW => by
      subst hW; exact hbb.trans ((three_off _ _ _ _ _).below (by simp) hbb.size)
    cases ok with
    | false =>
      clear hgood e1 e2 L2
      go_wp2
      try simp only [Exit.inBlock, Exit.then]
      refine bodyPost_ret (results_cell3 rfl rfl (((m2.set0 _).set1 _).set2 _).load) rfl ?_
      exact ⟨.inl ⟨hE.out, rfl⟩, fin _ rfl⟩
    | true =>
      by_cases hn1 : n = lb
      · have hn2 : ¬ lr = 1 := fun h => hgood ⟨rfl, by omega, by omega⟩
        subst hn1
        clear hgood e1 e2 L2
        go_wp2
        try simp only [Exit.inBlock, Exit.then]
        refine bodyPost_ret (results_cell3 rfl rfl (((m2.set0 _).set1 _).set2 _).load) rfl ?_
        exact ⟨.inl ⟨hE.out, rfl⟩, fin _ rfl⟩
      · clear hgood e1 e2 L2
        go_wp2
        try simp only [Exit.inBlock, Exit.then]
        refine bodyPost_ret (results_cell3 rfl rfl (((m2.set0 _).set1 _).set2 _).load) rfl ?_
        exact ⟨.inl ⟨hE.out, rfl⟩, fin _ rfl⟩
end Go.Proofs.YtgleblfkcdkaeaaDoor
