/- The statements' made: a list of tables that may be. -/
import Derived.Test.YtgleblfkcdkaeaaDoorMKnown
namespace Go.Proofs.YtgleblfkcdkaeaaDoor
set_option maxRecDepth 100000
open Go.RowKit Go.Sort

/-- made's loop: the list so far. -/
structure LB (w wr : World) (k : Nat) (bo : Option Addr) (cb : Nat) (ys : List Int) (wal : Int) : Prop where
  ls : Ls 3 1 RI wr (w.heap.size + 2) (.slice bo k cb) ys
  r : Mb wr w.heap.size (.slice none 0 0) (.int .i64 0) (.int .i64 0)
  t : Mb wr (w.heap.size + 1) (.slice bo k cb) (.int .i64 wal) (.int .i64 0)
  b : Below w.heap.size w wr

theorem lb_next {w wr w9 : World} {k : Nat} {bo ao' : Option Addr} {cb cap' n' : Nat} {ys : List Int} {x wal : Int} {ob : Obj} (R : LB w wr k bo cb ys wal)
    (L : Ls 3 1 RI w9 (w.heap.size + 2) (.slice ao' n' cap') (ys ++ [x])) (O : Off (own (.slice bo k cb)) (wr.alloc ob) w9) :
    LB w (w9.setCell ⟨w.heap.size + 1, 0, none⟩ (.slice ao' n' cap')) n' ao' cap' (ys ++ [x]) wal := by
  obtain ⟨ls, mr, mt, hbw⟩ := R
  have hd : Below wr.heap.size wr (wr.alloc ob) := (Below.refl _ _).alloc (Nat.le_refl _) ob
  have h1 : ∀ j, j ≤ w.heap.size + 1 → j ∉ own (.slice bo k cb) := fun j hj hi => by have := (ls.lt _ hi).2; omega
  have m9 := (mt.later hd).off O (h1 _ (by omega))
  have r9 := (mr.later hd).off O (h1 _ (by omega))
  have hB : Below w.heap.size w w9 := (hbw.trans (hd.mono hbw.size)).trans (O.below (fun i hi => by have := (ls.lt i hi).2; omega) (by have := hbw.size; have := hd.size; omega))
  have hO : Off [w.heap.size + 1] w9 (w9.setCell ⟨w.heap.size + 1, 0, none⟩ (.slice ao' n' cap')) := (Off.refl _ _).setCell (p := ⟨w.heap.size + 1, 0, none⟩) (by simp) _
  refine ⟨?_, r9.off hO (by simp), m9.set0 _, hB.setCell (p := ⟨w.heap.size + 1, 0, none⟩) (by simp) _⟩
  obtain ⟨us, u1, u2, u3⟩ := L
  have hne : ∀ i ∈ own (.slice ao' n' cap'), i ∉ [w.heap.size + 1] := fun i hi => by have := (own_lt u2 i hi).2; simp; omega
  exact ⟨us, u1, rows_offB u2 hO hne, u3⟩

theorem wit {n lo hi : Int} (h : lo ≤ hi) : lo ≤ wfun n lo hi ∧ wfun n lo hi ≤ hi := wfun_rng n lo hi h

set_option maxHeartbeats 8000000 in
theorem made_any (ao : Option Addr) (la ca : Nat) (l : List Int) (wal more : Int) (w : World) (h : Lx 1 RI w ao la ca l) (w1 : i64ok wal) (m1 : i64ok more) :
    Calls Tryd.prog 18 #[.slice ao la ca, .int .i64 wal, .int .i64 more] w fun e w' => (∃ m v, e = .returned v ∧ ManAt w.heap.size w' v m ∧ m.Right ∧ m.ts.length ≤ 12 ∧ m.nxt ≤ 6000) ∧ Below w.heap.size w w' := by
  have e1 := h.len_eq
  have hle := h.le
  have htop := h.top
  unfold maxLen at htop
  have wi1 := fun w' => within_eq wal 0 1000 w1.1 w1.2 (by omega) (by omega) (by omega) w'
  have wi2 := fun w' => within_eq more 1 9 m1.1 m1.2 (by omega) (by omega) (by omega) w'
  obtain ⟨a1, a2⟩ := wfun_rng wal 0 1000 (by omega)
  obtain ⟨b1, b2⟩ := wfun_rng more 1 9 (by omega)
  generalize wfun wal 0 1000 = wl at *
  generalize wfun more 1 9 = mo at *
  go_enter Tryd.func18, Tryd.ntmps18
  go_wp2_with fail
  with_reducible refine (wi1 _).mono ?_
  rintro e W1 ⟨rfl, rfl⟩
  go_wp2
  go_loopw [8, 9] (fun s8 s9 wr => ∃ (i n : Nat) (tp : Int) (bo : Option Addr) (cb : Nat) (ts : List Int), i ≤ la ∧ i ≤ 12 ∧ s9 = .int .i64 i ∧ s8 = .int .i64 tp ∧ Hid (n = ts.length) ∧ n ≤ i ∧ LB w wr n bo cb ts wl ∧ 0 ≤ tp ∧ tp ≤ 5000 ∧ wl ≤ tp ∧ Hid (ts.Nodup) ∧ Hid (∀ t ∈ ts, 0 ≤ t ∧ t ≤ tp)) (fun _ s9 _ => 13 - (intOf s9).toNat)
  case atStart =>
    have bA : Below w.heap.size w (w.alloc (.cells #[.slice none 0 0, .int .i64 0, .int .i64 0] 24)) := (Below.refl _ _).alloc (Nat.le_refl _) _
    have mA := (Mb.new w (.slice none 0 0) (.int .i64 0) (.int .i64 0)).later ((Below.refl _ _).alloc (Nat.le_refl _) (.cells #[.slice none 0 0, .int .i64 wl, .int .i64 0] 24))
    have mB := Mb.new (w.alloc (.cells #[.slice none 0 0, .int .i64 0, .int .i64 0] 24)) (.slice none 0 0) (.int .i64 wl) (.int .i64 0)
    rw [show (w.alloc (.cells #[.slice none 0 0, .int .i64 0, .int .i64 0] 24)).heap.size = w.heap.size + 1 by simp] at mB
    exact ⟨0, 0, wl, none, 0, [], by omega, by omega, rfl, rfl, rfl, by omega, ⟨Ls.nil _ _ _ _ _, mA, mB, below_trans bA ((Below.refl _ _).alloc (Nat.le_refl _) _)⟩, by omega, by omega, by omega, by show ([] : List Int).Nodup; simp, by show ∀ t ∈ ([] : List Int), _; simp⟩
  case round =>
    obtain ⟨i, n, tp, bo, cb, ts, hi, hi12, rfl, rfl, hn, hni, R, t1, t2, t3, hnd, hrg⟩ := hrel
    have hR := R
    obtain ⟨ls, mr, mt, hbw⟩ := R
    have c0 := mt.c0
    have c1 := mt.c1
    have c2 := mt.c2
    have z0 := mt.z 0
    have z2 := mt.z 2
    by_cases hgo : i < la ∧ i < 12
    · obtain ⟨g1, g2⟩ := hgo
      obtain ⟨b, off, rfl, hc⟩ := h.headI (by omega)
      have hx : l[i]? = some (l[i]'(by omega)) := by simp
      obtain ⟨x0, xr⟩ := hc i _ hx
      have x0 := cell_later hbw x0
      have wi := fun w' => within_eq (l[i]'(by omega)) 0 5000 xr.1 xr.2 (by omega) (by omega) (by omega) w'
      obtain ⟨q1, q2⟩ := wfun_rng (l[i]'(by omega)) 0 5000 (by omega)
      generalize wfun (l[i]'(by omega)) 0 5000 = x at wi q1 q2
      generalize l[i]'(by omega) = y at hx x0 xr wi
      clear hc hx wi1
      obtain ⟨ro, rc, hv, lx⟩ := ls.read RI.stable RI.plain
      rw [← hn.out] at hv lx
      cases hv
      go_wp2_with fail
      with_reducible refine (wi _).mono ?_
      rintro e W2 ⟨rfl, rfl⟩
      go_wp2
      go_loop [11, 12] (fun s11 s12 => ∃ (k : Nat) (bb : Bool), k ≤ n ∧ s12 = .int .i64 k ∧ s11 = .bool bb ∧ Hid (bb = decide (x ∈ ts.take k))) (fun _ s12 => n - (intOf s12).toNat)
      case atStart => exact ⟨0, false, by omega, rfl, rfl, by show _ = _; simp⟩
      case round =>
        obtain ⟨k, bb, hk, rfl, rfl, hbb⟩ := hrel
        by_cases hk2 : k < n
        · obtain ⟨b2, off2, rfl, hc2⟩ := lx.headI (by omega)
          have hkt : k < ts.length := by rw [← hn.out]; exact hk2
          have hz : ts[k]? = some (ts[k]'hkt) := by simp
          obtain ⟨y0, _⟩ := hc2 k _ hz
          generalize ts[k]'hkt = z at hz y0
          have hZ : Hid (ts[k]? = some z) := hz
          clear hz hc2
          have lle := lx.le
          cases bb with
          | true =>
            have hnext : Hid (true = decide (x ∈ ts.take (k + 1))) := (decide_eq_true ((mem_take_succ hZ.out).2 (.inl (of_decide_eq_true hbb.out.symm)))).symm
            clear hbb
            go_wp2
            go_round
            case rel => exact ⟨k + 1, true, by omega, by go_num, rfl, hnext⟩
            case measure => simp [intOf]; omega
          | false =>
            have hnot := of_decide_eq_false hbb.out.symm
            by_cases hxy : z = x
            · have hnext : Hid (true = decide (x ∈ ts.take (k + 1))) := (decide_eq_true ((mem_take_succ hZ.out).2 (.inr hxy.symm))).symm
              clear hbb hnot
              subst hxy
              go_wp2
              go_round
              case rel => exact ⟨k + 1, true, by omega, by go_num, rfl, hnext⟩
              case measure => simp [intOf]; omega
            · have hnext : Hid (false = decide (x ∈ ts.take (k + 1))) := (decide_eq_false (fun e => ((mem_take_succ hZ.out).1 e).elim hnot (fun h => hxy h.symm))).symm
              clear hbb hnot
              go_wp2
              go_round
              case rel => exact ⟨k + 1, false, by omega, by go_num, by simp [hxy], hnext⟩
              case measure => simp [intOf]; omega
        · have hkk : k = n := by omega
          have hbb2 : Hid (bb = decide (x ∈ ts)) := by
            have h := hbb.out
            rw [hkk, hn.out, List.take_length] at h
            exact h
          clear hbb
          cases bb with
          | true =>
            have hin : Hid (x ≤ tp) := (hrg.out x (of_decide_eq_true hbb2.out.symm)).2
            have hmx : x ≤ tp := hin.out
            clear hbb2 lx ls
            go_wp2
            go_round
            case rel => exact ⟨i + 1, n, tp, bo, cb, ts, by omega, by omega, by go_num, by first | rfl | (congr 1; split <;> omega) | (congr 1; omega), hn, by omega, hR, by omega, by omega, by omega, hnd, hrg⟩
            case measure => simp [intOf]; omega
          | false =>
            have hnot : Hid (x ∉ ts) := of_decide_eq_false hbb2.out.symm
            clear hbb2 lx
            have hsz : w.heap.size + 2 ≤ wr.heap.size := by have := mt.lt; omega
            have hback : ∀ (o : Obj) (w9 : World), Off (own (.slice bo n cb)) (wr.alloc o) w9 → w9.cell? ⟨w.heap.size + 1, 0, none⟩ = some (.slice bo n cb) ∧ w9.frozen? ⟨w.heap.size + 1, 0, none⟩ = false := by
              intro o w9 O9
              have hd : Below wr.heap.size wr (wr.alloc o) := (Below.refl _ _).alloc (Nat.le_refl _) o
              have hno : w.heap.size + 1 ∉ own (.slice bo n cb) := fun hi => by have := (ls.lt _ hi).2; omega
              have m9 := (mt.later hd).off O9 hno
              exact ⟨m9.c0, m9.z 0⟩
            have hxr : RI (wr.alloc (.cells #[.int .i64 x] 3)) (own (.slice bo n cb)) [.int .i64 x] x := ⟨rfl, by unfold i64ok; omega⟩
            have hnH : n = ts.length := hn.out
            have hts : ts.length ≤ 1000000000 := by omega
            have hls := ls.later RI.stable ((Below.refl wr.heap.size wr).alloc (Nat.le_refl _) (.cells #[.int .i64 x] 3))
            have hB2 : w.heap.size + 2 ≤ (wr.alloc (.cells #[.int .i64 x] 3)).heap.size := by simp; omega
            have hq : ∀ q, q = ts.length + 1 → q = n + 1 := fun q h => by rw [h, ← hnH]
            clear hnH ls
            go_wp2_with (with_reducible show wpList _ _ _ (⟨some 55, _, _, _, _, _⟩ :: _) _ _; refine wpList_one RI.stable RI.plain Tryd.underlying22 Tryd.info3a rfl (by decide) (by decide) rfl (.tmp 52) (.tmp 54) rfl (w.heap.size + 2) (.slice bo n cb) ts rfl hls ⟨wr.heap.size, 0, none⟩ 1 [.int .i64 x] x rfl (fun j y hy => lx_cell_one _ _ _ j y hy) hxr hts hB2 ?_; intro ao' n' cap' w9 hn' L9 O9 hs9; obtain rfl := hq _ hn'; clear hn'; obtain ⟨c9, z9⟩ := hback _ _ O9)
            all_goals
              have hnext := lb_next hR L9 O9
              go_round
              case rel =>
                refine ⟨i + 1, n + 1, max tp x, ao', cap', ts ++ [x], by omega, by omega, by go_num, by first | rfl | (congr 1; split <;> omega) | (congr 1; omega), by show _ = _; rw [hn.out]; simp, by omega, hnext, by omega, by omega, by omega, ?_, ?_⟩
                · show (ts ++ [x]).Nodup
                  rw [List.nodup_append]
                  exact ⟨hnd.out, by simp, fun a ha b hb => by simp at hb; subst hb; exact fun e => hnot.out (e ▸ ha)⟩
                · show ∀ t ∈ ts ++ [x], _
                  intro t ht
                  rcases List.mem_append.1 ht with ht | ht
                  · have := hrg.out t ht; omega
                  · simp at ht; subst ht; omega
              case measure => simp [intOf]; omega
    · by_cases hg1 : i < la
      · have hg2 : ¬ i < 12 := fun h => hgo ⟨hg1, h⟩
        clear hgo
        clear wi1
        have r0 := mr.c0
        have r1 := mr.c1
        have r2 := mr.c2
        have f0 := mr.z 0
        have f1 := mr.z 1
        have f2 := mr.z 2
        have hw8 : wrap64 (tp + mo) = tp + mo := IntWalk.wrap64_in _ (by omega)
        obtain ⟨ro, rc, hv, lx⟩ := ls.read RI.stable RI.plain
        rw [← hn.out] at hv lx
        cases hv
        have hnl : ∀ ad, bo = some ad → w.heap.size + 2 ≤ ad.block := fun ad ha => (ls.lt ad.block (by rw [ha]; simp [own, Value.ownBlock])).2
        clear ls
        go_wp2_with fail
        with_reducible refine (wi2 _).mono ?_
        rintro e W2 ⟨rfl, rfl⟩
        go_wp2
        try simp only [Exit.inBlock, Exit.then]
        have hO1 : Off [w.heap.size + 1] wr (wr.setCell ⟨w.heap.size + 1, 2, none⟩ (.int .i64 (tp + mo))) := (Off.refl _ _).setCell (p := ⟨w.heap.size + 1, 2, none⟩) (by simp) _
        have mr2 := mr.off hO1 (by simp)
        refine bodyPost_ret (results_cell1 rfl rfl (((mr2.set0 _).set1 _).set2 _).load) rfl ?_
        have b2 := hbw.trans (hO1.below (by simp) hbw.size)
        have hR2 : Man.Right ⟨ts, wl, tp + mo⟩ := ⟨by show ts.length ≤ 255; have := hn.out; omega, a1, by show wl < tp + mo; omega, by show tp + mo ≤ 16777215; omega, fun t ht => by have := hrg.out t ht; show 0 ≤ t ∧ t < tp + mo; omega, hnd.out⟩
        refine ⟨⟨⟨ts, wl, tp + mo⟩, _, rfl, ⟨bo, n, cb, rfl, ?_, fun ad ha => by have := hnl ad ha; omega⟩, hR2, by show ts.length ≤ 12; have := hn.out; omega, by show tp + mo ≤ 6000; omega⟩, b2.trans ((three_off _ _ _ _ _).below (by simp) b2.size)⟩
        exact (lx.offI hO1 (fun ad ha hi => by have := hnl ad ha; simp at hi; omega)).offI (three_off _ _ _ _ _) (fun ad ha hi => by have := hnl ad ha; simp at hi; omega)
      · clear hgo
        clear wi1
        have r0 := mr.c0
        have r1 := mr.c1
        have r2 := mr.c2
        have f0 := mr.z 0
        have f1 := mr.z 1
        have f2 := mr.z 2
        have hw8 : wrap64 (tp + mo) = tp + mo := IntWalk.wrap64_in _ (by omega)
        obtain ⟨ro, rc, hv, lx⟩ := ls.read RI.stable RI.plain
        rw [← hn.out] at hv lx
        cases hv
        have hnl : ∀ ad, bo = some ad → w.heap.size + 2 ≤ ad.block := fun ad ha => (ls.lt ad.block (by rw [ha]; simp [own, Value.ownBlock])).2
        clear ls
        go_wp2_with fail
        with_reducible refine (wi2 _).mono ?_
        rintro e W2 ⟨rfl, rfl⟩
        go_wp2
        try simp only [Exit.inBlock, Exit.then]
        have hO1 : Off [w.heap.size + 1] wr (wr.setCell ⟨w.heap.size + 1, 2, none⟩ (.int .i64 (tp + mo))) := (Off.refl _ _).setCell (p := ⟨w.heap.size + 1, 2, none⟩) (by simp) _
        have mr2 := mr.off hO1 (by simp)
        refine bodyPost_ret (results_cell1 rfl rfl (((mr2.set0 _).set1 _).set2 _).load) rfl ?_
        have b2 := hbw.trans (hO1.below (by simp) hbw.size)
        have hR2 : Man.Right ⟨ts, wl, tp + mo⟩ := ⟨by show ts.length ≤ 255; have := hn.out; omega, a1, by show wl < tp + mo; omega, by show tp + mo ≤ 16777215; omega, fun t ht => by have := hrg.out t ht; show 0 ≤ t ∧ t < tp + mo; omega, hnd.out⟩
        refine ⟨⟨⟨ts, wl, tp + mo⟩, _, rfl, ⟨bo, n, cb, rfl, ?_, fun ad ha => by have := hnl ad ha; omega⟩, hR2, by show ts.length ≤ 12; have := hn.out; omega, by show tp + mo ≤ 6000; omega⟩, b2.trans ((three_off _ _ _ _ _).below (by simp) b2.size)⟩
        exact (lx.offI hO1 (fun ad ha hi => by have := hnl ad ha; simp at hi; omega)).offI (three_off _ _ _ _ _) (fun ad ha hi => by have := hnl ad ha; simp at hi; omega)
end Go.Proofs.YtgleblfkcdkaeaaDoor
