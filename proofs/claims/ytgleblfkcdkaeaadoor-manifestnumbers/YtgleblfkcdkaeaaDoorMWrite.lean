/- manifest.Write, walked over a disk beside other memory. -/
import Derived.Test.YtgleblfkcdkaeaaDoorMDisk
import Derived.Test.YtgleblfkcdkaeaaDoorMPlain
import Derived.Test.YtgleblfkcdkaeaaDoorMEnc
import Derived.Test.YtgleblfkcdkaeaaDoorMDec
import Derived.Test.YtgleblfkcdkaeaaDoorWMem
namespace Go.Proofs.YtgleblfkcdkaeaaDoor
set_option maxRecDepth 100000
open Go.RowKit Go.Sort

theorem Tx.kp {B : Nat} {Z : List Nat} {w w' : World} {ao : Option Addr} {len cap : Nat} {xs : List Int} (h : Tx w ao len cap xs) (hk : Kp B Z w w') (hz : ∀ ad, ao = some ad → 0 < len → ad.block < B ∨ ad.block ∈ Z) : Tx w' ao len cap xs :=
  ⟨h.len_eq, h.le, h.top, h.bare, fun ad ha j hj => hk.cell (h.cell ad ha j hj) (by rw [add_block]; exact hz ad ha (by omega)), h.rng⟩
theorem Lx.kp {B : Nat} {Z : List Nat} {w w' : World} {ao : Option Addr} {len cap : Nat} {ts : List Int} (h : Lx 1 RI w ao len cap ts) (hk : Kp B Z w w') (hz : ∀ ad, ao = some ad → 0 < len → ad.block < B ∨ ad.block ∈ Z) : Lx 1 RI w' ao len cap ts :=
  ⟨h.len_eq, h.le, h.top, h.bare, fun ad ha j e he => by
    obtain ⟨u, h1, h2⟩ := h.cell ad ha j e he
    have hl : 0 < len := by have := (List.getElem?_eq_some_iff.1 he).1; have := h.len_eq; omega
    exact ⟨u, fun i x hx => hk.cell (h1 i x hx) (by rw [add_block]; exact hz ad ha hl), h2⟩⟩
theorem create_len {d D : Dm} (hok : d.Ok) {nm : ByteArray} {r : Int} (h : d.create nm = (D, r)) : D.files.length ≤ d.files.length + 1 := by
  have e : D = (d.create nm).1 := by rw [h]
  subst e
  unfold Dm.create
  split
  · exact Nat.le_succ _
  · split
    · rw [d.spend_files]; exact Nat.le_succ _
    · exact length_put hok.rise _
theorem append_len {d D : Dm} (hok : d.Ok) {nm : ByteArray} {b : List Int} {r : Int} (h : d.append nm b = (D, r)) : D.files.length ≤ d.files.length + 1 := by
  have e : D = (d.append nm b).1 := by rw [h]
  subst e
  unfold Dm.append
  split
  · exact Nat.le_succ _
  · simp only
    split
    · exact length_put hok.rise _
    · rw [d.spend_files]; exact Nat.le_succ _
theorem sync_len {d D : Dm} (hok : d.Ok) {nm : ByteArray} {r : Int} (h : d.sync nm = (D, r)) : D.files.length ≤ d.files.length + 1 := by
  have e : D = (d.sync nm).1 := by rw [h]
  subst e
  unfold Dm.sync
  split
  · exact Nat.le_succ _
  · split
    · rw [d.spend_files]; exact Nat.le_succ _
    · exact length_put hok.rise _
theorem new_size : nmNew.size ≤ 9223372036854775807 := by decide
theorem list_size : nmList.size ≤ 9223372036854775807 := by decide

set_option maxHeartbeats 4000000 in
theorem write_no (v : Value) (ao : Option Addr) (la ca : Nat) (ts : List Int) (wal nxt : Int) (w : World) (h : Lx 1 RI w ao la ca ts) (w1 : i64ok wal) (n1 : i64ok nxt) (hR : ¬ Man.Right ⟨ts, wal, nxt⟩) :
    Calls Tryd.prog 12 #[v, .agg #[.slice ao la ca, .int .i64 wal, .int .i64 nxt]] w fun e w' => e = .returned (.int .i64 1) ∧ Below w.heap.size w w' := by
  obtain ⟨V, hV, c0, c1, c2, hb, _, _⟩ := man_box w ao la ca wal nxt
  have hc := encode_no ao la ca ts wal nxt V (h.later RI.stable hb) w1 n1 hR
  clear hR
  go_enter Tryd.func12, Tryd.ntmps12
  go_wp2_with fail
  rw [← hV]
  clear hV
  with_reducible refine hc.mono ?_
  rintro e w1 ⟨rfl, hb1⟩
  go_wp2
  go_ret
  exact ⟨rfl, below_trans hb hb1⟩

set_option maxHeartbeats 4000000 in
theorem write_nil (ao : Option Addr) (la ca : Nat) (ts : List Int) (wal nxt : Int) (w : World) (h : Lx 1 RI w ao la ca ts) (w1 : i64ok wal) (n1 : i64ok nxt) :
    Calls Tryd.prog 12 #[.pointer none, .agg #[.slice ao la ca, .int .i64 wal, .int .i64 nxt]] w fun e w' => e = .returned (.int .i64 1) ∧ Below w.heap.size w w' := by
  by_cases hR : Man.Right ⟨ts, wal, nxt⟩
  · obtain ⟨V, hV, c0, c1, c2, hb, _, _⟩ := man_box w ao la ca wal nxt
    have hc := encode_yes ao la ca ts wal nxt V (h.later RI.stable hb) w1 n1 hR
    clear hR
    go_enter Tryd.func12, Tryd.ntmps12
    go_wp2_with fail
    rw [← hV]
    clear hV
    with_reducible refine hc.mono ?_
    rintro e w1 ⟨bo, lb, cb, rfl, t1, hb1⟩
    go_wp2
    go_ret
    exact ⟨rfl, below_trans hb hb1⟩
  · exact write_no _ ao la ca ts wal nxt w h w1 n1 hR

set_option maxHeartbeats 8000000 in
theorem write_x {B : Nat} {Z : List Nat} {w : World} {pb : Nat} {d : Dm} (hd : Dx B Z w pb d) (hfl : d.files.length ≤ 1000) (ao : Option Addr) (la ca : Nat) (ts : List Int) (wal nxt : Int) (h : Lx 1 RI w ao la ca ts) (w1 : i64ok wal) (n1 : i64ok nxt) (hR : Man.Right ⟨ts, wal, nxt⟩) (D : Dm) (r : Int) (hE : d.wrote (recL (Man.enc ⟨ts, wal, nxt⟩)) = (D, r)) :
    Calls Tryd.prog 12 #[.pointer (some ⟨pb, 0, none⟩), .agg #[.slice ao la ca, .int .i64 wal, .int .i64 nxt]] w fun e w' => e = .returned (.int .i64 r) ∧ Dx B Z w' pb D ∧ Kp B Z w w' := by
  obtain ⟨V, hV, c0, c1, c2, hb, _, _⟩ := man_box w ao la ca wal nxt
  have hc := encode_yes ao la ca ts wal nxt V (h.later RI.stable hb) w1 n1 hR
  have hlen : (Man.enc ⟨ts, wal, nxt⟩).length ≤ 1000 := by rw [Man.enc_len]; have := hR.1; simp at this ⊢; omega
  generalize Man.enc ⟨ts, wal, nxt⟩ = b at *
  have hrl := length_recL b
  generalize hrb : recL b = rb at *
  clear hR
  have hdV := hd.later hb
  have kV : Kp B Z w V := .of_below hb
  -- what the calls do, a step each
  obtain ⟨d1, r1, h1⟩ : ∃ d1 r1, Hid (d.create nmNew = (d1, r1)) := ⟨_, _, rfl⟩
  obtain ⟨d2, r2, h2⟩ : ∃ d2 r2, Hid (d1.append nmNew rb = (d2, r2)) := ⟨_, _, rfl⟩
  obtain ⟨d3, r3, h3⟩ : ∃ d3 r3, Hid (d2.sync nmNew = (d3, r3)) := ⟨_, _, rfl⟩
  obtain ⟨d4, r4, h4⟩ : ∃ d4 r4, Hid (d3.rename nmNew nmList = (d4, r4)) := ⟨_, _, rfl⟩
  have hE' : Hid (d.wrote rb = (D, r)) := hE
  clear hE
  have hput := fun (W : World) (hB : Below V.heap.size V W) (bo : Option Addr) (lb cb : Nat) (t : Tx W bo lb cb b) => fput_far none bo 0 0 lb cb [] b W (Tx.nil W) t (by omega) (by have := t.len_eq; omega)
  go_enter Tryd.func12, Tryd.ntmps12
  go_wp2_with fail
  rw [← hV]
  clear hV
  with_reducible refine hc.mono ?_
  rintro e V1 ⟨bo, lb, cb, rfl, t1, hb1⟩
  go_wp2_with fail
  with_reducible refine (hput V1 hb1 bo lb cb t1).mono ?_
  rintro e V2 ⟨co, lc, cc, rfl, t2, hfar, hb2⟩
  rw [List.nil_append, hrb] at t2
  have hlc := t2.len_eq
  obtain ⟨g, off, rfl, _⟩ := t2.head (by omega)
  have hg := hfar _ rfl (by omega)
  have hgl := t2.lt _ rfl (by omega)
  simp only at hg hgl
  have x2 := (hdV.later hb1).more hb2 hg hgl
  have k2 : Kp B Z w V2 := (kV.trans (.of_below hb1)).trans (.of_below hb2)
  clear hput hc hfar
  go_wp2_with fail
  with_reducible refine (create_x x2 nmNew d1 r1 h1.out (by omega) new_size).mono ?_
  rintro e V3 ⟨rfl, x3, k3⟩
  have k23 := k2.trans (k3.less (fun k hk => List.mem_cons_of_mem _ hk))
  by_cases z1 : r1 = 0
  · subst z1
    have l1 := create_len hd.ok h1.out
    have t3 := t2.kp k3 (fun ad ha _ => by cases ha; exact .inr (by simp))
    go_wp2_with fail
    with_reducible refine (append_x x3 nmNew _ lc cc rb t3 (fun ad ha _ => by cases ha; exact .inr (by simp)) (by omega) d2 r2 h2.out (by omega)).mono ?_
    rintro e V4 ⟨rfl, x4, k4⟩
    have k24 := k23.trans (k4.less (fun k hk => List.mem_cons_of_mem _ hk))
    by_cases z2 : r2 = 0
    · subst z2
      have l2 := append_len x3.ok h2.out
      go_wp2_with fail
      with_reducible refine (sync_x x4 nmNew d3 r3 h3.out (by omega)).mono ?_
      rintro e V5 ⟨rfl, x5, k5⟩
      have k25 := k24.trans (k5.less (fun k hk => List.mem_cons_of_mem _ hk))
      by_cases z3 : r3 = 0
      · subst z3
        have l3 := sync_len x4.ok h3.out
        have hz : Hid (d4 = D ∧ r4 = r) := by have := (wrote_r h1.out h2.out h3.out).symm.trans hE'.out; rw [h4.out] at this; exact ⟨congrArg Prod.fst this, congrArg Prod.snd this⟩
        go_wp2_with fail
        with_reducible refine (rename_x x5 nmNew nmList d4 r4 h4.out (by omega) list_size).mono ?_
        rintro e V6 ⟨rfl, x6, k6⟩
        have k26 := k25.trans (k6.less (fun k hk => List.mem_cons_of_mem _ hk))
        go_wp2
        go_ret
        obtain ⟨rfl, rfl⟩ := hz.out
        exact ⟨rfl, x6.less (fun k hk => List.mem_cons_of_mem _ hk), k26⟩
      · have hz : Hid (d3 = D ∧ r3 = r) := by have := (wrote_s h1.out h2.out h3.out z3).symm.trans hE'.out; exact ⟨congrArg Prod.fst this, congrArg Prod.snd this⟩
        go_wp2
        go_ret
        obtain ⟨rfl, rfl⟩ := hz.out
        exact ⟨rfl, x5.less (fun k hk => List.mem_cons_of_mem _ hk), k25⟩
    · have hz : Hid (d2 = D ∧ r2 = r) := by have := (wrote_a h1.out h2.out z2).symm.trans hE'.out; exact ⟨congrArg Prod.fst this, congrArg Prod.snd this⟩
      go_wp2
      go_ret
      obtain ⟨rfl, rfl⟩ := hz.out
      exact ⟨rfl, x4.less (fun k hk => List.mem_cons_of_mem _ hk), k24⟩
  · have hz : Hid (d1 = D ∧ r1 = r) := by have := (wrote_c h1.out z1).symm.trans hE'.out; exact ⟨congrArg Prod.fst this, congrArg Prod.snd this⟩
    go_wp2
    go_ret
    obtain ⟨rfl, rfl⟩ := hz.out
    exact ⟨rfl, x3.less (fun k hk => List.mem_cons_of_mem _ hk), k23⟩
end Go.Proofs.YtgleblfkcdkaeaaDoor
